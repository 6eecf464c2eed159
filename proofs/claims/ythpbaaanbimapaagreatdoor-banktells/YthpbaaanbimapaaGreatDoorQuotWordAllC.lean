/-
  Plain mathematics of shifts of lists of words in place: from the top down for a shift to the left, from the bottom up for one to the right. No Go in sight.
-/
import Derived.Test.YthpbaaanbimapaaGreatDoorProdRowAllC
import Derived.Lib.SliceRun
import Derived.WalkMore
import Derived.Deep.DeepCutAuto
import Derived.Test.YthpbaaanbimapaaGreatDoorNatShlAllC
import Derived.Test.YthpbaaanbimapaaGreatDoorLimbDivAllC
namespace Go.Proofs.YthpbaaanbimapaaGreatDoor
set_option maxRecDepth 100000
open Go.RowKit
set_option linter.unusedVariables false
set_option linter.unusedSimpArgs false

/-- a call that returns a number, a word and true -/
def RetQW (q : Nat) (r : Int) (w : World) (e : Ending) (w' : World) : Prop := ∃ A n c, e = .returned (.tuple #[.slice A n c, .int .u64 r, .bool true]) ∧ Sl w' A n c (words q) ∧ Below w.heap.size w w'

theorem RetQW.of {q n c : Nat} {A : Option Addr} {r r' : Int} {w w' : World} (hr : r' = r) (hs : Sl w' A n c (words q)) (hb : Below w.heap.size w w') : RetQW q r w (.returned (.tuple #[.slice A n c, .int .u64 r', .bool true])) w' := by
  subst hr; exact ⟨A, n, c, rfl, hs, hb⟩

/-- .. in new memory -/
def RetQWN (q : Nat) (r : Int) (w : World) (e : Ending) (w' : World) : Prop := ∃ A n c, e = .returned (.tuple #[.slice A n c, .int .u64 r, .bool true]) ∧ Sl w' A n c (words q) ∧ Below w.heap.size w w' ∧ New w A
theorem RetQWN.of {q n c : Nat} {A : Option Addr} {r r' : Int} {w w' : World} (hr : r' = r) (hs : Sl w' A n c (words q)) (hb : Below w.heap.size w w') (hn : New w A) : RetQWN q r w (.returned (.tuple #[.slice A n c, .int .u64 r', .bool true])) w' := by
  subst hr; exact ⟨A, n, c, rfl, hs, hb, hn⟩

theorem quot_word_zero (A : Option Addr) (n c : Nat) (w : World) :
    Calls Tryz.prog 146 #[.slice A n c, .int .u64 0] w fun e w' => e = .returned (.tuple #[.slice none 0 0, .int .u64 0, .bool false]) ∧ w = w' := by
  go_enter Tryz.func146, Tryz.ntmps146
  go_wp2_with fail
  go_ret3
  exact ⟨rfl, rfl⟩

set_option maxHeartbeats 1000000 in
theorem quot_word_new {w : World} {A : Option Addr} {n c : Nat} {xs : List Int} (h : Sl w A n c xs) (hn : n ≤ 10000000) (d : Int) (hd : U d) (hd0 : 0 < d) :
    Calls Tryz.prog 146 #[.slice A n c, .int .u64 d] w (RetQWN (val xs / d.toNat) (val xs % d.toNat : Nat) w) := by
  have hlen := h.len
  have HL := Lib.hid hlen
  clear hlen
  have hne : (d == 0) = false := by simp; omega
  obtain ⟨w0, hmk, hr0, hb0, _⟩ := make_words w n (by omega)
  have HR0 := Lib.hid hr0
  clear hr0
  go_enter Tryz.func146, Tryz.ntmps146
  go_wp2_with fail
  go_loopw [8, 9] (fun rv iv wr => ∃ (k : Nat) (j r : Int) (qs : List Int), k ≤ n ∧ j + 1 ≤ k ∧ (k : Int) ≤ j + 1 ∧ iv = .int .i64 j ∧ rv = .int .u64 r ∧ WdInv xs d k r qs ∧ Row 34 wr w.heap.size qs ∧ Below w.heap.size w wr) (fun _ iv _ => (intOf iv + 1).toNat)
  case atStart => exact ⟨n, _, 0, _, by omega, by omega, by omega, rfl, rfl, by have := wdInv_0 xs hd0; rw [← HL.out] at this; exact this, HR0.out, hb0⟩
  case round =>
    clear HR0
    obtain ⟨k, j, r, qs, hk, hj1, hj2, rfl, rfl, hz, hr, hb⟩ := hrel
    by_cases hk0 : k = 0
    · subst hk0
      obtain rfl : j = -1 := by omega
      obtain ⟨e1, e2⟩ := wdInv_end hz
      have hlq : qs.length = n := by rw [hz.1, HL.out]
      have hr0 : 0 ≤ r := hz.2.2.1.1
      have hsl := hr.sl (c := n) (U_Dg hz.2.1) (by omega)
      rw [hlq] at hsl
      have T := nat_trim_new hsl (by omega)
      rw [e1] at T
      have er : r = ((val xs % d.toNat : Nat) : Int) := by rw [← e2]; exact (Int.toNat_of_nonneg hr0).symm
      have HT := Lib.hid T
      have HE := Lib.hid er
      clear T hsl e1 e2 hr hz hlq er
      go_wp2_with fail
      refine HT.out.mono ?_
      rintro e w2 ⟨A2, n2, c2, rfl, s2, b2, nw2⟩
      go_wp2_with fail
      go_ret3
      exact RetQWN.of HE.out s2 (hb.trans (b2.mono hb.size)) (nw2.mono hb.size)
    · obtain ⟨i, rfl⟩ : ∃ i, k = i + 1 := ⟨k - 1, by omega⟩
      obtain rfl : j = (i : Int) := by omega
      have hin : i < n := by omega
      obtain ⟨ba, offa, rfl, _, hac⟩ := (h.apart' hb (Nat.le_refl _)).at_ hin
      have hlq : qs.length = n := by rw [hz.1, HL.out]
      have hcell := hr.cell (i := i) (by omega)
      have hfree := hr.free i
      have hrr := hz.2.2.1
      have hux : U (xs.getD i 0) := h.u i
      obtain ⟨g1, g2, g3⟩ := wd_digit hrr.1 hrr.2 hux
      have hst := wdInv_step hz (by rw [← HL.out]; exact hin) g1 g2 g3
      have D := fun w => limb_div_yes r (xs.getD i 0) d (by unfold U at hd ⊢; omega) hux hd hrr.2 w
      generalize xs.getD i 0 = x at *
      generalize qs.getD i 0 = z at *
      generalize (r * 18446744073709551616 + x) / d = t at *
      generalize (r * 18446744073709551616 + x) % d = r' at *
      have HS := Lib.hid hst
      have HR := Lib.hid hr
      have HD := Lib.hid D
      clear hst hr hz D g1 g2 g3 hux hrr hlq hj1 hj2
      go_wp2_with fail
      refine (HD.out _).mono ?_
      rintro e w' ⟨rfl, kk, rfl⟩
      have hr1 : Row 34 (wr.drewN kk) w.heap.size qs := HR.out
      have hb1 : Below w.heap.size w (wr.drewN kk) := Below.drewN' hb kk
      have hcell1 : (wr.drewN kk).cell? ⟨w.heap.size, i, none⟩ = some (.int .u64 z) := hcell
      have hfree1 : (wr.drewN kk).frozen? ⟨w.heap.size, i, none⟩ = false := hfree
      generalize wr.drewN kk = w1 at *
      have HR1 := Lib.hid hr1
      clear hcell hfree hac hr1
      go_wp2_with fail
      go_roundw
      case rel => exact ⟨i, _, _, _, by omega, by omega, by omega, rfl, rfl, HS.out, HR1.out.set i _, hb1.setCell (Nat.le_refl _) _⟩
      case measure => simp [intOf]

theorem quot_word {w : World} {A : Option Addr} {n c : Nat} {xs : List Int} (h : Sl w A n c xs) (hn : n ≤ 10000000) (d : Int) (hd : U d) (hd0 : 0 < d) :
    Calls Tryz.prog 146 #[.slice A n c, .int .u64 d] w (RetQW (val xs / d.toNat) (val xs % d.toNat : Nat) w) :=
  (quot_word_new h hn d hd hd0).mono fun _ _ ⟨A, n, c, he, hs, hb, _⟩ => ⟨A, n, c, he, hs, hb⟩

theorem quot_of_rem {q d r : Nat} (h : r < d) : (q * d + r) / d = q := by rw [Nat.mul_comm, Nat.mul_add_div (by omega), Nat.div_eq_of_lt h, Nat.add_zero]
/-- a call that returns a word that is at least t -/
def Est (t : Nat) (w : World) (e : Ending) (w' : World) : Prop := ∃ (q : Int) (k : Nat), e = .returned (.int .u64 q) ∧ U q ∧ t ≤ q.toNat ∧ w' = w.drewN k

set_option maxHeartbeats 1000000 in
theorem quot_estimate {w : World} {A A' : Option Addr} {n c c' : Nat} {ps vs : List Int} (h : Sl w A (n + 1) c ps) (h' : Sl w A' n c' vs) (hn : n ≤ 10000000) (hn1 : 1 ≤ n) (ht : val ps / val vs < W) :
    Calls Tryz.prog 204 #[.slice A (n + 1) c, .slice A' n c'] w (Est (val ps / val vs) w) := by
  obtain ⟨b, off, rfl, _, hc⟩ := h.at_ (k := 0) (by omega)
  obtain ⟨b', off', rfl, _, hc'⟩ := h'.at_ (k := 0) (by omega)
  have g1 := hc n (by omega)
  have g2 := hc (n - 1) (by omega)
  have g3 := hc' (n - 1) (by omega)
  have u1 := h.u n
  have u2 := h.u (n - 1)
  have u3 := h'.u (n - 1)
  have hest := est_ge h.len.symm (Dg_U h.us) h'.len.symm (Dg_U h'.us) hn1
  have i1 : ((n : Int) - 1).toNat = n - 1 := by omega
  generalize ps.getD n 0 = p1 at *
  generalize ps.getD (n - 1) 0 = p2 at *
  generalize vs.getD (n - 1) 0 = v1 at *
  obtain ⟨m, rfl⟩ : ∃ m, n = m + 1 := ⟨n - 1, by omega⟩
  rw [show m + 1 - 1 = m by omega] at *
  have HT := Lib.hid ht
  have HE := Lib.hid hest
  clear hc hc' ht hest i1
  by_cases hlt : p1 < v1
  · have D := fun w => limb_div_yes p1 p2 v1 u1 u2 u3 hlt w
    obtain ⟨d1, d2, d3⟩ := wd_digit u1.1 hlt u2
    have he := HE.out (by have := u1.1; omega)
    have hq : ((p1 * 18446744073709551616 + p2) / v1).toNat = (p1.toNat * W + p2.toNat) / v1.toNat := by
      rw [d3]
      exact (quot_of_rem (by omega)).symm
    rw [← hq] at he
    generalize (p1 * 18446744073709551616 + p2) / v1 = q at *
    generalize (p1 * 18446744073709551616 + p2) % v1 = r at *
    have HD := Lib.hid D
    have HQ := Lib.hid he
    clear D hq d2 d3 he
    go_enter Tryz.func204, Tryz.ntmps204
    go_wp2_with fail
    go_quiet ((go_at_call 203; exact Calls.quiet_of (HD.out _)))
    go_wp2_with fail
    go_ret
    exact ⟨q, _, rfl, d1, HQ.out, rfl⟩
  · have D := fun w => limb_div_no p1 p2 v1 (by omega) w
    have HD := Lib.hid D
    clear D
    go_enter Tryz.func204, Tryz.ntmps204
    go_wp2_with fail
    go_quiet ((go_at_call 203; exact quiet_eq (HD.out _)))
    go_wp2_with fail
    go_ret
    exact ⟨_, _, rfl, by unfold U; omega, by have := HT.out; unfold W at this; omega, rfl⟩

theorem spl_set (zs : List Int) (o k : Nat) (ho : o < zs.length) : spl (zs.set o 0) (o + 1) (List.replicate k 0) = spl zs o (List.replicate (k + 1) 0) := by
  unfold spl
  rw [List.take_succ_eq_append_getElem (by rw [List.length_set]; exact ho), List.getElem_set_self, List.take_set_of_le (Nat.le_refl _), List.drop_set_of_lt (by omega), List.replicate_succ, List.length_cons, List.length_replicate,
    show o + 1 + k = o + (k + 1) by omega]
  simp
theorem Row.zeros {t : TypeId} {g : Nat} (k : Nat) : ∀ {w : World} {zs : List Int} {o : Nat}, Row t w g zs → o + k ≤ zs.length → Row t (w.setCells g o (List.replicate k (.int .u64 0))) g (spl zs o (List.replicate k 0)) := by
  induction k with
  | zero => intro w zs o h hk; unfold spl; simpa [World.setCells] using h
  | succ k ih =>
    intro w zs o h hk
    rw [← spl_set zs o k (by omega)]
    exact ih (h.set o 0) (by rw [List.length_set]; omega)
theorem Keep.zeros {g : Nat} {a : World} (k : Nat) : ∀ {w : World} {o : Nat}, Keep g a w → Keep g a (w.setCells g o (List.replicate k (.int .u64 0))) := by
  induction k with
  | zero => intro w o h; exact h
  | succ k ih => intro w o h; exact ih (h.setCell o _)
theorem zeroW (w : World) : (zeroValue 34).run Tryz.prog w = .ok (.int .u64 0) w := by kernel_rfl
theorem replaced_spl {zs xs : List Int} {off L m : Nat} (hd : Dg W zs) (hx : Dg W xs) (hm : xs.length = m) (hml : m ≤ L) (hfit : off + L ≤ zs.length) :
    Replaced zs off L (val xs) (spl (spl zs off xs) (off + m) (List.replicate (L - m) 0)) := by
  have l1 : (spl zs off xs).length = zs.length := length_spl (by omega)
  have e1 : (spl zs off xs).take (off + m) = zs.take off ++ xs := by
    unfold spl
    rw [← List.append_assoc, List.take_append_of_le_length (by simp; omega), List.take_of_length_le (by simp; omega)]
  have e2 : (spl zs off xs).drop (off + L) = zs.drop (off + L) := by
    unfold spl
    rw [← List.append_assoc, List.drop_append, List.drop_eq_nil_of_le (by simp; omega), List.drop_drop]
    have hl : (List.take off zs ++ xs).length = off + m := by simp; omega
    rw [hl, hm, List.nil_append]
    congr 1
    omega
  have e3 : spl (spl zs off xs) (off + m) (List.replicate (L - m) 0) = zs.take off ++ (xs ++ List.replicate (L - m) 0) ++ zs.drop (off + L) := by
    rw [spl, e1, List.length_replicate, show off + m + (L - m) = off + L by omega, e2]
    simp [List.append_assoc]
  have l4 : (List.take off zs).length = off := by simp; omega
  have l5 : (xs ++ List.replicate (L - m) (0 : Int)).length = L := by simp; omega
  rw [e3]
  refine ⟨by simp; omega, ((hd.take _).append (hx.append (Dg.zeros W_pos _))).append (hd.drop _), ?_, ?_, ?_⟩
  · rw [List.append_assoc, List.take_append_of_le_length (by omega), List.take_of_length_le (by omega)]
  · rw [List.drop_append, List.drop_eq_nil_of_le (by rw [List.length_append, l4, l5]; omega), List.length_append, l4, l5]
    simp
  · rw [List.append_assoc, List.drop_append, List.drop_eq_nil_of_le (by omega), l4, Nat.sub_self, List.drop_zero, List.nil_append, List.take_append_of_le_length (by omega), List.take_of_length_le (by omega), valB_over]
    rfl

set_option maxHeartbeats 1000000 in
theorem quot_replace {w : World} {g off L C : Nat} {zs : List Int} {A : Option Addr} {m c : Nat} {xs : List Int} (hr : Row 34 w g zs) (hd : Dg W zs) (ha : SlN g w A m c xs) (hL : L ≤ 100000000) (hm : m < L) (hLC : L ≤ C) (hfit : off + L ≤ zs.length) :
    Calls Tryz.prog 207 #[.slice (some ⟨g, off, none⟩) L C, .slice A m c] w (Wrote 34 g (Replaced zs off L (val xs)) w) := by
  have hrep := replaced_spl hd (Dg_U ha.sl.us) ha.sl.len.symm (Nat.le_of_lt hm) hfit
  have HREP := Lib.hid hrep
  have HR := Lib.hid hr
  have HD := Lib.hid hd
  have HA := Lib.hid ha
  clear hrep hr hd ha
  have hne : ¬ (C = m) := by omega
  go_enter Tryz.func207, Tryz.ntmps207
  go_wp2_with (with_reducible refine wpList_copy_words rfl (.tmp 5) (.tmp 6) 49 49 rfl 34 Tryz.underlying49 sizeW g off L C A m c rfl rfl zs xs ?hr ?hsl ?hle ?hfit ?_)
  case hr => exact HR.out
  case hsl => exact HA.out.sl
  case hle => omega
  case hfit => omega
  intro w2 HR2 HK2
  have hl2 : (spl zs off xs).length = zs.length := length_spl (by have := HA.out.sl.len; omega)
  have hcl : ∀ ty, (Builtin.clear_ #[49] ty #[.slice (some ⟨g, off + m, none⟩) (L - m) (C - m)]).run Tryz.prog w2 = .ok (.tuple #[]) (w2.setCells g (off + m) (List.replicate (L - m) (.int .u64 0))) :=
    fun ty => Lib.run_clear_slice w2 49 34 ty (.int .u64 0) Tryz.underlying49 zeroW rfl rfl g (off + m) (L - m) (C - m) (by omega) (fun j hj => by rw [HR2.out.cell (by omega)]; rfl) (fun j hj => HR2.out.free _)
  have hz := Row.zeros (L - m) (o := off + m) HR2.out (by omega)
  have hk := Keep.zeros (L - m) (o := off + m) HK2.out
  generalize w2.setCells g (off + m) (List.replicate (L - m) (.int .u64 0)) = w3 at *
  have HZ := Lib.hid hz
  clear hz hl2
  go_wp2_with (simp only [hcl])
  go_end0
  exact ⟨_, rfl, HZ.out, hk, HREP.out⟩

end Go.Proofs.YthpbaaanbimapaaGreatDoor

namespace Go.Proofs.YthpbaaanbimapaaGreatDoor
set_option maxRecDepth 100000
open Go.RowKit
set_option linter.unusedVariables false
set_option linter.unusedSimpArgs false

/-- the number in a cell -/
def cellInt : Option Value → Int
  | some (.int _ z) => z
  | _ => 0
/-- the n words from place off of block b on -/
def readAt (w : World) (b off n : Nat) : List Int := (List.range n).map fun j => cellInt (w.cell? ⟨b, off + j, none⟩)
/-- the number that a slot's slice says: for a loop's measure -/
def mesV (v : Value) (w : World) : Nat :=
  match v with
  | .slice (some ⟨b, off, none⟩) n _ => val (readAt w b off n)
  | _ => 0
theorem mesV_eq {w : World} {A : Option Addr} {n c X : Nat} (h : Sl w A n c (words X)) : mesV (.slice A n c) w = X := by
  rcases Nat.eq_zero_or_pos n with h0 | h0
  · subst h0
    have e : words X = [] := List.eq_nil_of_length_eq_zero h.len.symm
    have hX : X = 0 := by rw [← val_words X, e]; rfl
    rw [hX]
    unfold mesV
    split
    · rename_i b off n' c' heq
      injection heq with _ e2
      subst e2
      rfl
    · rfl
  · obtain ⟨b, off, rfl, _, hc⟩ := h.at_ (k := 0) h0
    show val (readAt w b off n) = X
    have e : readAt w b off n = words X := by
      unfold readAt
      apply List.ext_getElem
      · rw [List.length_map, List.length_range]; exact h.len
      · intro i h1 h2
        rw [List.length_map, List.length_range] at h1
        rw [List.getElem_map, List.getElem_range, hc i h1]
        simp [cellInt, List.getD_eq_getElem?_getD, List.getElem?_eq_getElem h2]
    rw [e, val_words]
/-- a call that returns two numbers -/
def RetQR (q r : Nat) (w : World) (e : Ending) (w' : World) : Prop := ∃ A n c A' n' c', e = .returned (.tuple #[.slice A n c, .slice A' n' c']) ∧ Sl w' A n c (words q) ∧ Sl w' A' n' c' (words r) ∧ Below w.heap.size w w'

set_option maxRecDepth 100000 in
set_option maxHeartbeats 4000000 in
theorem quot_divLong {w : World} {A A' : Option Addr} {la n c c' a b : Nat} (h : Sl w A la c (words a)) (h' : Sl w A' n c' (words b)) (hn : 2 ≤ n) (hab : b ≤ a) (hla : la ≤ 1000000) :
    Calls Tryz.prog 149 #[.slice A la c, .slice A' n c'] w (RetQR (a / b) (a % b) w) := by
  have hlen := h.len
  have hlen' := h'.len
  have htop : (words b).getD (n - 1) 0 ≠ 0 := by
    have := sz_last (words b) (by rw [sz_words]; omega)
    rw [sz_words, ← hlen'] at this
    exact this
  obtain ⟨s, hs63, hsb, hb1, hb2⟩ := top_word (words_Dg b) hlen'.symm (by omega) htop
  rw [val_words] at hb1 hb2
  have hnla : n ≤ la := by
    have h1 : W ^ (n - 1) ≤ a := Nat.le_trans (Nat.le_trans (Nat.le_mul_of_pos_right _ (Nat.two_pow_pos _)) hb1) hab
    have := words_len_ge h1
    omega
  have hva : a < W ^ la := by
    have := valB_lt (words_Dg a)
    have e : valB W (words a) = a := val_words a
    rw [e, ← hlen] at this
    exact this
  obtain ⟨f1, f2, f3, f4, f5⟩ := norm_div hb1 hb2 (by omega) hs63 hva hnla
  have hV0 : 0 < b * 2 ^ s := Nat.lt_of_lt_of_le (Nat.pow_pos W_pos) f1
  have SH1 := nat_shl h' (by omega) (s : Int)
  rw [clampS_mid (by omega) (by omega), Int.toNat_natCast, val_words] at SH1
  have SH2 := fun w1 (hb : Below w.heap.size w w1) => nat_shl (h.below hb) (by omega) (s : Int)
  rw [clampS_mid (by omega) (by omega), Int.toNat_natCast, val_words] at SH2
  have lV : (words (b * 2 ^ s)).length = n := by
    have h1 := words_length _ _ f3
    have h2 := words_len_ge f1
    omega
  have lA := words_length _ _ f4
  have hux : U ((words b).getD (n - 1) 0) := h'.u (n - 1)
  obtain ⟨b', off', rfl, _, hc'⟩ := h'.at_ (k := 0) (by omega)
  have hcx := hc' (n - 1) (by omega)
  have LN := fun w => limb_len ((words b).getD (n - 1) 0) hux w
  have hsI : (64 : Int) - (blen ((words b).getD (n - 1) 0).toNat : Int) = (s : Int) := by omega
  have hbl : blen ((words b).getD (n - 1) 0).toNat ≤ 64 := by omega
  generalize (words b).getD (n - 1) 0 = x at *
  generalize blen x.toNat = bx at *
  obtain ⟨m, hm⟩ : ∃ m, la - n + 1 = m := ⟨_, rfl⟩
  rw [hm] at f5
  have hm1 : m + n ≤ la + 1 := by omega
  have hm2 : la + 1 ≤ m + n := by omega
  obtain ⟨V, eV⟩ : ∃ V, b * 2 ^ s = V := ⟨_, rfl⟩
  obtain ⟨A0, eA⟩ : ∃ A0, a * 2 ^ s = A0 := ⟨_, rfl⟩
  rw [eV] at SH1 lV f1 f2 f3 f5 hV0
  rw [eA] at SH2 lA f4 f5
  have HSH1 := Lib.hid SH1
  have HSH2 := Lib.hid SH2
  have HLN := Lib.hid LN
  have EV := Lib.hid eV
  have EA := Lib.hid eA
  have F2 := Lib.hid f2
  have F3 := Lib.hid f3
  have F5 := Lib.hid f5
  have LV := Lib.hid lV
  have LA := Lib.hid lA
  have HV0 := Lib.hid hV0
  obtain ⟨n1, rfl⟩ : ∃ n1, n = n1 + 1 := ⟨n - 1, by omega⟩
  rw [show n1 + 1 - 1 = n1 by omega] at hcx
  clear SH1 SH2 LN eV eA f1 f2 f3 f4 f5 lV lA hlen hlen' hc' hb1 hb2 hva hm hV0 htop hsb hux
  go_enter Tryz.func149, Tryz.ntmps149
  go_wp2_with fail
  go_step3
  go_wp2_with fail
  refine (HLN.out _).mono ?_
  rintro e w' ⟨rfl, rfl⟩
  go_wp2_with fail
  refine HSH1.out.mono ?_
  rintro e w1 ⟨A1, nv, cv, rfl, s1, b1⟩
  obtain rfl : nv = n1 + 1 := by rw [s1.len]; exact LV.out
  obtain ⟨w2, hmk, hr2, hb2, hlt2⟩ := make_words w1 (la + 1) (by omega)
  rw [show ((la + 1 : Nat) : Int) = (la : Int) + 1 by omega] at hmk
  have hbw2 := b1.trans (hb2.mono b1.size)
  have SH := HSH2.out w2 hbw2
  have HSH := Lib.hid SH
  have S1 := Lib.hid s1
  have HR2 := Lib.hid hr2
  clear SH HSH1 HSH2 hcx hsI hbl HLN s1 hr2
  go_wp2_with fail
  refine HSH.out.mono ?_
  rintro e w3 ⟨A3, n3, c3, rfl, s3, b3⟩
  have hn3 : n3 ≤ la + 1 := by rw [s3.len]; exact LA.out
  have hr3 : Row 34 w3 w1.heap.size (List.replicate (la + 1) 0) := HR2.out.below b3 HR2.out.lt
  have HR3 := Lib.hid hr3
  have S3 := Lib.hid s3
  have hx3 : Below w1.heap.size w1 w3 := hb2.trans (b3.mono (Nat.le_of_lt hlt2))
  clear hr3 s3 HSH HR2
  go_wp2_with (with_reducible refine wpList_copy_words rfl (.tmp 32) (.tmp 35) 49 49 rfl 34 Tryz.underlying49 sizeW w1.heap.size 0 (la + 1) (la + 1) A3 n3 c3 rfl rfl (List.replicate (la + 1) 0) (words A0) ?hr ?hsl ?hle ?hfit ?_)
  case hr => exact HR3.out
  case hsl => exact S3.out
  case hle => exact hn3
  case hfit => simp; omega
  intro w4 HR4 HK4
  have hx4 : Below w1.heap.size w1 w4 := Below.keep hx3 HK4.out (Nat.le_refl _) (Nat.le_refl _)
  have hinv : DivInv A0 V (n1 + 1) m m (spl (List.replicate (la + 1) 0) 0 (words A0)) (List.replicate m 0) := by
    refine divInv_0 ?_ ((Dg.zeros W_pos _).spl (words_Dg _) 0) ?_ F5.out
    · rw [length_spl (by have := LA.out; simp; omega)]; simp; omega
    · unfold spl
      simp only [List.take_zero, List.nil_append, List.drop_replicate]
      rw [valB_over]
      exact val_words A0
  obtain ⟨w5, hmk5, hr5, hb5, hlt5⟩ := make_words w4 m (by omega)
  rw [show ((m : Nat) : Int) = (la : Int) - ((n1 : Int) + 1) + 1 by omega] at hmk5
  have hr5u := HR4.out.below hb5 HR4.out.lt
  have hgq : w1.heap.size < w4.heap.size := by have := HR4.out.lt; exact this
  have hx5 : Below w1.heap.size w1 w5 := hx4.trans (hb5.mono hx4.size)
  have HINV := Lib.hid hinv
  have HR5 := Lib.hid hr5
  have HR5U := Lib.hid hr5u
  clear hinv hr5 hr5u HR3 S3 HR4 HK4
  go_wp2_with fail
  go_step3
  go_wp2_with fail
  clear hmk hmk5 hb2 hlt2 hb5 hlt5 hx4 hx3
  go_loopw [11] (fun iv wr => ∃ (k : Nat) (j : Int) (us qs : List Int), k ≤ m ∧ j + 1 ≤ k ∧ (k : Int) ≤ j + 1 ∧ iv = .int .i64 j ∧ DivInv A0 V (n1 + 1) m k us qs ∧ Row 34 wr w1.heap.size us ∧ Row 34 wr w4.heap.size qs ∧ Below w1.heap.size w1 wr) (fun iv _ => (intOf iv + 1).toNat)
  case atStart => exact ⟨m, _, _, _, by omega, by omega, by omega, rfl, HINV.out, HR5U.out, HR5.out, hx5⟩
  case round =>
    clear HINV HR5U HR5 hx5
    obtain ⟨k, j, us, qs, hk, hj1, hj2, rfl, hz, hru, hrq, hx⟩ := hrel
    by_cases hk0 : k = 0
    · subst hk0
      obtain rfl : j = -1 := by omega
      obtain ⟨e1, e2⟩ := div_end hz EA.out.symm EV.out.symm
      have hlq : qs.length = m := hz.2.1.1
      have hlu : us.length = la + 1 := by have := hz.1.1; omega
      have hslq := hrq.sl (c := m) (U_Dg hz.2.1.2) (by omega)
      rw [hlq] at hslq
      have T := nat_trim hslq (by omega)
      rw [e1] at T
      have hslu := hru.sl (c := la + 1) (U_Dg hz.1.2) (by omega)
      rw [hlu] at hslu
      have HT := Lib.hid T
      have HSU := Lib.hid hslu
      have HE2 := Lib.hid e2
      clear T hslq hslu e1 e2 hru hrq hz hlq hlu
      go_wp2_with fail
      refine HT.out.mono ?_
      rintro e w7 ⟨A7, n7, c7, rfl, s7, b7⟩
      have SR := nat_shr (HSU.out.below b7) (by omega) (s : Int) (by omega)
      rw [Int.toNat_natCast, HE2.out] at SR
      have HSR := Lib.hid SR
      clear SR HT
      go_wp2_with fail
      refine HSR.out.mono ?_
      rintro e w8 ⟨A8, n8, c8, rfl, s8, b8⟩
      have hx7 := hx.trans (b7.mono hx.size)
      have hx8 := hx7.trans (b8.mono hx7.size)
      go_wp2_with fail
      go_ret2
      exact ⟨_, _, _, _, _, _, rfl, s7.below b8, s8, b1.trans (hx8.mono b1.size)⟩
    · obtain ⟨i, rfl⟩ : ∃ i, k = i + 1 := ⟨k - 1, by omega⟩
      obtain rfl : j = (i : Int) := by omega
      have him : i < m := by omega
      obtain ⟨q1, q2, q3, q4⟩ := div_part hz F2.out him
      have hlu : us.length = la + 1 := by have := hz.1.1; omega
      have hlq : qs.length = m := hz.2.1.1
      have hps := hru.part (off := i) (n := n1 + 1 + 1) (c := la + 1 - i) hz.1.2 (by omega) (by omega)
      obtain ⟨P, eP⟩ : ∃ P, val ((us.drop i).take (n1 + 1 + 1)) = P := ⟨_, rfl⟩
      rw [eP] at q4
      have hst := fun ys (hr : Replaced us i (n1 + 1 + 1) (P % V) ys) => (divInv_step (t := P / V) hz F2.out him eP.symm rfl HV0.out hr).1
      have htW : P / V < W := by rw [Nat.div_lt_iff_lt_mul HV0.out]; exact q4
      have hvv : val (words V) = V := val_words V
      have E := quot_estimate hps (S1.out.below hx) (by omega) (by omega) (by rw [eP, hvv]; exact htW)
      rw [eP, hvv] at E
      have hcq := hrq.cell (i := i) (by omega)
      have hfq := hrq.free i
      generalize qs.getD i 0 = z0 at *
      have HST := Lib.hid hst
      have HTW := Lib.hid htW
      have HE := Lib.hid E
      have HEP := Lib.hid eP
      have HDU := Lib.hid hz.1.2
      have HDQ := Lib.hid hz.2.1.2
      have HLU := Lib.hid hlu
      have HLQ := Lib.hid hlq
      have HRU := Lib.hid hru
      have HRQ := Lib.hid hrq
      have hne : ¬ (la + 1 = i) := by omega
      clear hst htW E eP hz hlu hlq hru hrq q1 q2 q3 q4 hps hvv hj1 hj2 hk0
      go_wp2_with fail
      rw [show i + (n1 + 1) + 1 - i = n1 + 1 + 1 by omega]
      refine HE.out.mono ?_
      rintro e w6 ⟨e0, k6, rfl, hu0, hle0, rfl⟩
      have hru6 : Row 34 (wr.drewN k6) w1.heap.size us := HRU.out
      have hrq6 : Row 34 (wr.drewN k6) w4.heap.size qs := HRQ.out
      have hx6 : Below w1.heap.size w1 (wr.drewN k6) := Below.drewN' hx k6
      have hcq6 : (wr.drewN k6).cell? ⟨w4.heap.size, i, none⟩ = some (.int .u64 z0) := hcq
      have hfq6 : (wr.drewN k6).frozen? ⟨w4.heap.size, i, none⟩ = false := hfq
      clear hcq hfq hx HRU HRQ HE
      generalize wr.drewN k6 = w6 at *
      obtain ⟨E0, rfl⟩ := Int.eq_ofNat_of_zero_le hu0.1
      have hE0 : E0 < W := by have := hu0.2; unfold W; omega
      rw [Int.toNat_natCast] at hle0
      have hru7 : Row 34 (w6.setCell ⟨w4.heap.size, i, none⟩ (.int .u64 (E0 : Int))) w1.heap.size us := hru6.keep ((Keep.refl w4.heap.size w6).setCell i _) (by omega)
      have hrq7 := hrq6.set i (E0 : Int)
      have hx7 := hx6.setCell (p := ⟨w4.heap.size, i, none⟩) (Nat.le_of_lt hgq) (.int .u64 (E0 : Int))
      have hcq7 : (w6.setCell ⟨w4.heap.size, i, none⟩ (.int .u64 (E0 : Int))).cell? ⟨w4.heap.size, i, none⟩ = some (.int .u64 (E0 : Int)) := by
        rw [hrq7.cell (by rw [List.length_set, HLQ.out]; exact him), getD_set_self _ (by rw [HLQ.out]; exact him)]
      have PW := prod_word_new (S1.out.below hx7) (by omega) (E0 : Int) 0 hu0 U_0
      rw [val_words, show V * (E0 : Int).toNat + (0 : Int).toNat = V * E0 by simp] at PW
      have HPW := Lib.hid PW
      have HRU7 := Lib.hid hru7
      have HRQ7 := Lib.hid hrq7
      have HX7 := Lib.hid hx7
      have HCQ7 := Lib.hid hcq7
      have HU0 := Lib.hid hu0
      have HE0 := Lib.hid hE0
      clear PW hru7 hrq7 hx7 hru6 hrq6 hx6 hcq7 hu0 hE0
      go_wp2_with fail
      refine HPW.out.mono ?_
      rintro e w8 ⟨A8, n8, c8, rfl, s8, b8, nw8⟩
      have sn8 := s8.new nw8 HRQ7.out.lt
      have hru8 := HRU7.out.below b8 HRU7.out.lt
      have hrq8 := HRQ7.out.below b8 HRQ7.out.lt
      have hx8 := HX7.out.trans (b8.mono HX7.out.size)
      have HRU8 := Lib.hid hru8
      have HRQ8 := Lib.hid hrq8
      clear hru8 hrq8 HPW HRU7 HRQ7 HX7 HCQ7 b8 hcq6 hfq6
      go_wp2_with fail
      go_loopw [13] (fun mv wx => ∃ (e1 : Nat) (B : Option Addr) (nb cb : Nat), mv = .slice B nb cb ∧ P / V ≤ e1 ∧ Hid (e1 < W) ∧ SlN w4.heap.size wx B nb cb (words (V * e1)) ∧ Row 34 wx w1.heap.size us ∧ Row 34 wx w4.heap.size (qs.set i (e1 : Int)) ∧ Below w1.heap.size w1 wx) (fun mv wx => mesV mv wx)
      case atStart => exact ⟨E0, _, _, _, rfl, hle0, HE0, sn8, HRU8.out, HRQ8.out, hx8⟩
      case round =>
        clear HRU8 HRQ8 hx8 s8 sn8 nw8 hle0 HE0 HU0
        obtain ⟨e1, B, nb, cb, rfl, hle1, HW1, smn, hru, hrq, hx⟩ := hrel
        have sm := smn.sl
        have hnb : nb ≤ n1 + 1 + 1 := sm.small (mul_lt_powW F3.out (show e1 < W ^ 1 by rw [Nat.pow_one]; exact HW1.out))
        have hps := hru.part (off := i) (n := n1 + 1 + 1) (c := la + 1 - i) HDU.out (by have := HLU.out; omega) (by omega)
        by_cases hfit : e1 ≤ P / V
        · obtain rfl : e1 = P / V := by omega
          have hle : V * (P / V) ≤ P := Nat.mul_div_le P V
          have SB := nat_sub_new hps sm (by omega) (by omega) (by rw [HEP.out, val_words]; exact hle)
          rw [HEP.out, val_words, show P - V * (P / V) = P % V by have := Nat.div_add_mod P V; omega] at SB
          have HSB := Lib.hid SB
          have HRU := Lib.hid hru
          have HRQ := Lib.hid hrq
          clear SB hps hle sm smn hru hrq hle1 hfit
          go_wp2_with fail
          refine HSB.out.mono ?_
          rintro e w9 ⟨A9, n9, c9, rfl, s9, b9, nw9⟩
          have hn9 : n9 ≤ n1 + 1 := s9.small (Nat.lt_of_lt_of_le (Nat.mod_lt _ HV0.out) F2.out)
          have hru9 := HRU.out.below b9 HRU.out.lt
          have hrq9 := HRQ.out.below b9 HRQ.out.lt
          have hx9 := hx.trans (b9.mono hx.size)
          have RP := quot_replace (off := i) (L := n1 + 1 + 1) (C := la + 1 - i) hru9 HDU.out (s9.new nw9 HRU.out.lt) (by omega) (by omega) (by omega) (by have := HLU.out; omega)
          rw [val_words] at RP
          have HRP := Lib.hid RP
          have HRQ9 := Lib.hid hrq9
          clear RP hru9 hrq9 HSB s9 b9 nw9 HRU HRQ
          go_wp2_with fail
          refine HRP.out.mono ?_
          rintro e w10 ⟨ys, rfl, hr10, hk10, ht10⟩
          have hq10 := HRQ9.out.keep hk10 (by omega)
          have hx10 := Below.keep hx9 hk10 (Nat.le_refl _) (Nat.le_refl _)
          have HD10 := Lib.hid (HST.out ys ht10)
          have HR10 := Lib.hid hr10
          have HQ10 := Lib.hid hq10
          clear hr10 hq10 hk10 ht10 HRP HRQ9
          go_wp2_with fail
          go_roundw
          case rel => exact ⟨i, _, ys, _, by omega, by omega, by omega, rfl, HD10.out, HR10.out, HQ10.out, hx10⟩
          case measure => simp [intOf]
        · have hlt : P < V * e1 := by
            have h1 : P / V + 1 ≤ e1 := by omega
            have h2 := Nat.mul_le_mul_left V h1
            have h3 := Nat.div_add_mod P V
            have h4 := Nat.mod_lt P HV0.out
            rw [Nat.mul_add] at h2
            omega
          have hp1 : 0 < e1 := Nat.pos_of_ne_zero (fun h => hfit (by rw [h]; exact Nat.zero_le _))
          obtain ⟨e2, rfl⟩ : ∃ e2, e1 = e2 + 1 := ⟨e1 - 1, by omega⟩
          have SB := nat_sub_no hps sm (by omega) (by omega) (by rw [HEP.out, val_words]; exact hlt)
          have HSB := Lib.hid SB
          have HRU := Lib.hid hru
          have HRQ := Lib.hid hrq
          have SM := Lib.hid smn
          have hmes := mesV_eq sm
          have HMES := Lib.hid hmes
          have hge : P / V ≤ e2 := by omega
          have HGE := Lib.hid hge
          have hw2 : e2 < W := by have := HW1.out; omega
          have HW2 := Lib.hid hw2
          clear SB hps hlt sm smn hru hrq hle1 hfit hmes hge hw2 hp1
          go_wp2_with fail
          refine HSB.out.mono ?_
          rintro e w9 ⟨A9, n9, c9, rfl, s9, b9⟩
          have hru9 := HRU.out.below b9 HRU.out.lt
          have hrq9 := HRQ.out.below b9 HRQ.out.lt
          have hx9 := hx.trans (b9.mono hx.size)
          have hcq9 : w9.cell? ⟨w4.heap.size, i, none⟩ = some (.int .u64 ((e2 : Int) + 1)) := by
            rw [hrq9.cell (by rw [List.length_set, HLQ.out]; exact him), getD_set_self _ (by rw [HLQ.out]; exact him)]; rfl
          have hfq9 := hrq9.free i
          have hwr : IntKind.u64.wrap ((e2 : Int) + 1 - 1) = (e2 : Int) := by
            rw [show (e2 : Int) + 1 - 1 = (e2 : Int) by omega, wrapU_lo, lo_U]
            have := HW2.out; unfold W at this; unfold U; omega
          have hwr' : IntKind.u64.wrap (e2 : Int) = (e2 : Int) := by
            rw [wrapU_lo, lo_U]
            have := HW2.out; unfold W at this; unfold U; omega
          have hru10 : Row 34 (w9.setCell ⟨w4.heap.size, i, none⟩ (.int .u64 (e2 : Int))) w1.heap.size us := hru9.keep ((Keep.refl w4.heap.size w9).setCell i _) (by omega)
          have hrq10 := hrq9.set i (e2 : Int)
          rw [List.set_set] at hrq10
          have hx10 := hx9.setCell (p := ⟨w4.heap.size, i, none⟩) (Nat.le_of_lt hgq) (.int .u64 (e2 : Int))
          have sm10 : Sl (w9.setCell ⟨w4.heap.size, i, none⟩ (.int .u64 (e2 : Int))) B nb cb (words (V * (e2 + 1))) := ((SM.out.keep (Keep.of_below _ b9)).keep ((Keep.refl w4.heap.size w9).setCell i _)).sl
          have S2 := nat_sub_new sm10 (S1.out.below hx10) (by omega) (by omega) (by rw [val_words, val_words]; exact Nat.le_mul_of_pos_right _ (by omega))
          rw [val_words, val_words, show V * (e2 + 1) - V = V * e2 by rw [Nat.mul_add]; omega] at S2
          have HS2 := Lib.hid S2
          have HRU10 := Lib.hid hru10
          have HRQ10 := Lib.hid hrq10
          have HX10 := Lib.hid hx10
          clear S2 hru9 hrq9 hru10 hrq10 hx10 sm10 HSB s9 b9 HRU HRQ hx9 SM hx
          go_wp2_with fail
          refine HS2.out.mono ?_
          rintro e w11 ⟨A11, n11, c11, rfl, s11, b11, nw11⟩
          have sn11 := s11.new nw11 HRQ10.out.lt
          have hru11 := HRU10.out.below b11 HRU10.out.lt
          have hrq11 := HRQ10.out.below b11 HRQ10.out.lt
          have hx11 := HX10.out.trans (b11.mono HX10.out.size)
          have hmes11 : mesV (.slice A11 n11 c11) w11 = V * e2 := mesV_eq s11
          have HM11 := Lib.hid hmes11
          have HRU11 := Lib.hid hru11
          have HRQ11 := Lib.hid hrq11
          clear hru11 hrq11 hmes11 HS2 HRU10 HRQ10 HX10 b11 hcq9 hfq9
          go_wp2_with fail
          go_roundw
          case rel => exact ⟨e2, _, _, _, rfl, HGE.out, HW2, sn11, HRU11.out, HRQ11.out, hx11⟩
          case measure => rw [HM11.out, HMES.out, Nat.mul_add]; have := HV0.out; omega

/-- a call that returns two numbers and a bool -/
def RetDiv (q r : Nat) (ok : Bool) (w : World) (e : Ending) (w' : World) : Prop := ∃ A n c A' n' c', e = .returned (.tuple #[.slice A n c, .slice A' n' c', .bool ok]) ∧ Sl w' A n c (words q) ∧ Sl w' A' n' c' (words r) ∧ Below w.heap.size w w'
theorem val_short {ys : List Int} (hd : Dg W ys) (h : sz ys ≤ 1) : val ys = (ys.getD 0 0).toNat := by
  have e := valB_take_sz W ys h
  unfold val
  rw [← e, show (1 : Nat) = 0 + 1 from rfl, valB_take_succ]
  simp [valB]
theorem val_long {ys : List Int} (hd : Dg W ys) (h : 1 < sz ys) : 2 ≤ (words (val ys)).length ∧ 0 < val ys := by
  rw [words_val hd, length_trim]
  refine ⟨h, ?_⟩
  rcases Nat.eq_zero_or_pos (val ys) with e | e
  · have := (valB_zero_iff W_pos hd).1 e; omega
  · exact e

set_option maxHeartbeats 1000000 in
theorem quot_div_zero {w : World} {A A' : Option Addr} {n n' c c' : Nat} {ys : List Int} (h' : Sl w A' n' c' ys) (hn' : n' ≤ 1000000) (h0 : val ys = 0) :
    Calls Tryz.prog 86 #[.slice A n c, .slice A' n' c'] w (RetDiv 0 0 false w) := by
  have hz : sz ys = 0 := (valB_zero_iff W_pos (Dg_U h'.us)).1 h0
  have hw1 : word1 ys = 0 := by unfold word1; rw [if_neg (by omega)]; exact sz_past ys (by omega)
  have NW := nat_word h' (by omega)
  rw [hw1, hz, decide_eq_true (by omega)] at NW
  have HNW := Lib.hid NW
  clear NW hw1 hz h0
  go_enter Tryz.func86, Tryz.ntmps86
  go_wp2_with fail
  refine HNW.out.mono ?_
  rintro e w' ⟨rfl, rfl⟩
  go_wp2_with fail
  refine (quot_word_zero _ _ _ _).mono ?_
  rintro e w' ⟨rfl, rfl⟩
  go_wp2_with fail
  refine (nat_of 0 U_0 _).mono ?_
  rintro e w1 ⟨A1, n1, c1, rfl, s1, b1⟩
  go_wp2_with fail
  go_ret3
  exact ⟨_, _, _, _, _, _, rfl, Sl.nil _ _ _, s1, b1⟩

set_option maxHeartbeats 1000000 in
theorem quot_div {w : World} {A A' : Option Addr} {n n' c c' : Nat} {xs ys : List Int} (h : Sl w A n c xs) (h' : Sl w A' n' c' ys) (hn : n ≤ 1000000) (hn' : n' ≤ 1000000) (h0 : 0 < val ys) :
    Calls Tryz.prog 86 #[.slice A n c, .slice A' n' c'] w (RetDiv (val xs / val ys) (val xs % val ys) true w) := by
  by_cases hs : sz ys ≤ 1
  · have hv := val_short (Dg_U h'.us) hs
    have hw1 : word1 ys = ys.getD 0 0 := by unfold word1; rw [if_neg (by omega)]
    have NW := nat_word h' (by omega)
    rw [hw1, decide_eq_true hs] at NW
    have hu := h'.u 0
    have hpos : 0 < ys.getD 0 0 := by rw [hv] at h0; omega
    have QW := quot_word h (by omega) (ys.getD 0 0) hu hpos
    rw [← hv] at QW
    generalize ys.getD 0 0 = d at *
    have hlt := Nat.mod_lt (val xs) h0
    have hum : U ((val xs % val ys : Nat) : Int) := by unfold U at hu ⊢; omega
    have OF := fun w => nat_of ((val xs % val ys : Nat) : Int) hum w
    rw [Int.toNat_natCast] at OF
    generalize val xs / val ys = q at *
    generalize val xs % val ys = r at *
    have HNW := Lib.hid NW
    have HQW := Lib.hid QW
    have HOF := Lib.hid OF
    clear NW QW OF hw1 hv hlt hum hu hpos
    go_enter Tryz.func86, Tryz.ntmps86
    go_wp2_with fail
    refine HNW.out.mono ?_
    rintro e w' ⟨rfl, rfl⟩
    go_wp2_with fail
    refine HQW.out.mono ?_
    rintro e w1 ⟨A1, n1, c1, rfl, s1, b1⟩
    go_wp2_with fail
    refine (HOF.out _).mono ?_
    rintro e w2 ⟨A2, n2, c2, rfl, s2, b2⟩
    go_wp2_with fail
    go_ret3
    exact ⟨_, _, _, _, _, _, rfl, s1.below b2, s2, b1.trans (b2.mono b1.size)⟩
  · have NW := nat_word h' (by omega)
    rw [decide_eq_false hs] at NW
    obtain ⟨hl2, _⟩ := val_long (Dg_U h'.us) (by omega)
    have CM := nat_cmp h h' (by omega) (by omega)
    generalize word1 ys = d at *
    have HNW := Lib.hid NW
    by_cases hlt : val xs < val ys
    · rw [cmpN_lt hlt] at CM
      rw [Nat.div_eq_of_lt hlt, Nat.mod_eq_of_lt hlt]
      have HCM := Lib.hid CM
      have HT := Lib.hid (nat_trim h (by omega))
      clear NW CM hlt hl2
      go_enter Tryz.func86, Tryz.ntmps86
      go_wp2_with fail
      refine HNW.out.mono ?_
      rintro e w' ⟨rfl, rfl⟩
      go_wp2_with fail
      refine HCM.out.mono ?_
      rintro e w' ⟨rfl, rfl⟩
      go_wp2_with fail
      refine HT.out.mono ?_
      rintro e w1 ⟨A1, n1, c1, rfl, s1, b1⟩
      go_wp2_with fail
      go_ret3
      exact ⟨_, _, _, _, _, _, rfl, Sl.nil _ _ _, s1, b1⟩
    · have hcm : 0 ≤ cmpN (val xs) (val ys) := by have := cmpN_neg (val xs) (val ys); omega
      generalize cmpN (val xs) (val ys) = cm at CM hcm
      have l1 := Lib.hid h.len
      have va := Lib.hid (val_lt_pow h.us (Nat.le_refl xs.length))
      have HCM := Lib.hid CM
      have HT1 := Lib.hid (nat_trim h (by omega))
      have HT2 := Lib.hid (fun w1 (hb : Below w.heap.size w w1) => nat_trim (h'.below hb) (by omega))
      have HL2 := Lib.hid hl2
      have hcn : ¬ (cm < 0) := by omega
      clear NW CM hl2
      go_enter Tryz.func86, Tryz.ntmps86
      go_wp2_with fail
      refine HNW.out.mono ?_
      rintro e w' ⟨rfl, rfl⟩
      go_wp2_with fail
      refine HCM.out.mono ?_
      rintro e w' ⟨rfl, rfl⟩
      go_wp2_with fail
      refine HT1.out.mono ?_
      rintro e w1 ⟨A1, n1, c1, rfl, s1, b1⟩
      go_wp2_with fail
      refine (HT2.out _ b1).mono ?_
      rintro e w2 ⟨A2, n2, c2, rfl, s2, b2⟩
      have hb2 := b1.trans (b2.mono b1.size)
      have hn1 : n1 ≤ 1000000 := Nat.le_trans (s1.small va.out) (by rw [← l1.out]; exact hn)
      have DL := quot_divLong (s1.below b2) s2 (by rw [s2.len]; exact HL2.out) (by omega) hn1
      have HDL := Lib.hid DL
      clear DL s1 s2 b1 b2 HT1 HT2
      go_wp2_with fail
      refine HDL.out.mono ?_
      rintro e w3 ⟨A3, n3, c3, A4, n4, c4, rfl, s3, s4, b3⟩
      go_wp2_with fail
      go_ret3
      exact ⟨_, _, _, _, _, _, rfl, s3, s4, hb2.trans (b3.mono hb2.size)⟩

end Go.Proofs.YthpbaaanbimapaaGreatDoor

namespace Go.Proofs.YthpbaaanbimapaaGreatDoor
set_option maxRecDepth 100000
open Go.RowKit
set_option linter.unusedVariables false
set_option linter.unusedSimpArgs false

theorem U_nat {x : Nat} (h : x < 18446744073709551616) : U (x : Int) := by unfold U; omega
end Go.Proofs.YthpbaaanbimapaaGreatDoor

namespace Go.Proofs.YthpbaaanbimapaaGreatDoor
set_option maxRecDepth 100000
open Go.RowKit
set_option linter.unusedVariables false
set_option linter.unusedSimpArgs false

end Go.Proofs.YthpbaaanbimapaaGreatDoor

namespace Go.Proofs.YthpbaaanbimapaaGreatDoor
set_option maxRecDepth 100000
open Go.RowKit
set_option linter.unusedVariables false
set_option linter.unusedSimpArgs false

/-! ### products by halves: plain -/
theorem val_one (x : Int) : val [x] = x.toNat := by simp [val, valB]

theorem words_one : words 1 = [1] := by
  have e : (1 : Nat) = val [1] := by simp [val, valB]
  rw [e, words_val (by intro x hx; simp at hx; subst hx; unfold W; omega)]
  decide

end Go.Proofs.YthpbaaanbimapaaGreatDoor

namespace Go.Proofs.YthpbaaanbimapaaGreatDoor
set_option maxRecDepth 100000
open Go.RowKit
set_option linter.unusedVariables false
set_option linter.unusedSimpArgs false

theorem shl_digit2 {x y : Int} {s : Nat} (hs : s < 64) (hx : U x) (hy : U y) :
    ∃ v : Nat, bits BinOp.or IntKind.u64 (IntKind.u64.wrap (x * 2 ^ s)) (y / 2 ^ (64 - s)) = (v : Int) ∧ v < W ∧ v = x.toNat * 2 ^ s % W + y.toNat / 2 ^ (64 - s) ∧ x.toNat * 2 ^ s = x.toNat * 2 ^ s % W + W * (x.toNat / 2 ^ (64 - s)) := by
  obtain ⟨n, rfl⟩ := Int.eq_ofNat_of_zero_le hx.1
  obtain ⟨e, rfl⟩ := Int.eq_ofNat_of_zero_le hy.1
  have hW := W_split (s := s) (by omega)
  have p0 : 0 < 2 ^ s := Nat.two_pow_pos s
  have hm : n * 2 ^ s % W < W := Nat.mod_lt _ W_pos
  have hm0 : n * 2 ^ s % W % 2 ^ s = 0 := by
    rw [hW, Nat.mod_mul_right_mod, Nat.mul_mod_left]
  have heW : e < W := by have := hy.2; unfold W; omega
  obtain ⟨hb, hb'⟩ := shl_high hs heW
  have hlt : n * 2 ^ s % W + 2 ^ s ≤ W := by
    have e1 : n * 2 ^ s % W = 2 ^ s * (n * 2 ^ s % W / 2 ^ s) := by
      have := Nat.div_add_mod (n * 2 ^ s % W) (2 ^ s); omega
    have e2 : n * 2 ^ s % W / 2 ^ s < 2 ^ (64 - s) := by
      rw [Nat.div_lt_iff_lt_mul p0, Nat.mul_comm (2 ^ (64 - s)), ← hW]; exact hm
    have e3 : 2 ^ s * (n * 2 ^ s % W / 2 ^ s + 1) ≤ 2 ^ s * 2 ^ (64 - s) := Nat.mul_le_mul_left _ e2
    rw [← hW, Nat.mul_add] at e3
    omega
  refine ⟨n * 2 ^ s % W + e / 2 ^ (64 - s), ?_, by omega, by simp, ?_⟩
  · rw [cast_shl, cast_shr, wrapU]
    have ew : ((n * 2 ^ s : Nat) : Int) % 18446744073709551616 = ((n * 2 ^ s % W : Nat) : Int) := by rw [Int.natCast_emod]; rfl
    rw [ew]
    generalize n * 2 ^ s % W = a at *
    generalize e / 2 ^ (64 - s) = b at *
    have := shl_or a b s (by unfold W at hm; omega) hm0 hb (by unfold W at hb'; omega)
    rw [wrapU_lo, lo_U (by unfold U; unfold W at hm; omega)] at this
    exact this
  · simp only [Int.toNat_natCast]
    have e5 : n * 2 ^ s / W = n / 2 ^ (64 - s) := by rw [hW, Nat.mul_comm (2 ^ s), Nat.mul_div_mul_right _ _ p0]
    have := Nat.div_add_mod (n * 2 ^ s) W
    rw [e5] at this
    omega

/-- places above i hold shifted words, those up to i hold what they held -/
def ShlDown (L : List Int) (s i : Nat) (zs : List Int) : Prop :=
  zs.length = L.length ∧ Dg W zs ∧ (∀ j, j ≤ i → zs.getD j 0 = L.getD j 0) ∧ valB W (zs.drop (i + 1)) = valB W (L.drop (i + 1)) * 2 ^ s + (L.getD i 0).toNat / 2 ^ (64 - s)
theorem shlDown_0 {L : List Int} {s N : Nat} (hd : Dg W L) (hN : L.length = N + 1) (h0 : L.getD N 0 = 0) : ShlDown L s N L := by
  refine ⟨rfl, hd, fun j _ => rfl, ?_⟩
  rw [List.drop_eq_nil_of_le (by omega), h0]
  simp [valB]
theorem shlDown_alg (b T X Lx Hx V2 Y v R : Nat) (hv : v = Lx + Y) (hx : X * T = Lx + b * Hx) (hR : R = V2 * T + Hx) : v + b * R = (X + b * V2) * T + Y := by
  subst hv hR
  rw [Nat.add_mul, hx, Nat.mul_add, Nat.mul_assoc]
  omega
theorem shlDown_step {L zs : List Int} {s k v : Nat} (h : ShlDown L s (k + 1) zs) (hk : k + 1 < L.length) (hv1 : v < W) (hv : v = (L.getD (k + 1) 0).toNat * 2 ^ s % W + (L.getD k 0).toNat / 2 ^ (64 - s))
    (hx : (L.getD (k + 1) 0).toNat * 2 ^ s = (L.getD (k + 1) 0).toNat * 2 ^ s % W + W * ((L.getD (k + 1) 0).toNat / 2 ^ (64 - s))) : ShlDown L s k (zs.set (k + 1) (v : Int)) := by
  obtain ⟨h1, h2, h3, h4⟩ := h
  refine ⟨by simpa using h1, h2.set _ (Int.natCast_nonneg _) (Int.ofNat_lt.2 hv1), fun j hj => ?_, ?_⟩
  · rw [getD_set_ne _ (by omega)]; exact h3 j (by omega)
  · rw [valB_drop W _ (k + 1), getD_set_self _ (by omega), Int.toNat_natCast, List.drop_set_of_lt (by omega), valB_drop W L (k + 1)]
    exact shlDown_alg W _ _ _ _ _ _ _ _ hv hx h4
theorem shlDown_end {L zs : List Int} {s v : Nat} (h : ShlDown L s 0 zs) (hk : 0 < L.length) (hv1 : v < W) (hv : v = (L.getD 0 0).toNat * 2 ^ s % W)
    (hx : (L.getD 0 0).toNat * 2 ^ s = (L.getD 0 0).toNat * 2 ^ s % W + W * ((L.getD 0 0).toNat / 2 ^ (64 - s))) : val (zs.set 0 (v : Int)) = val L * 2 ^ s ∧ Dg W (zs.set 0 (v : Int)) ∧ (zs.set 0 (v : Int)).length = L.length := by
  obtain ⟨h1, h2, h3, h4⟩ := h
  refine ⟨?_, h2.set _ (Int.natCast_nonneg _) (Int.ofNat_lt.2 hv1), by simpa using h1⟩
  unfold val
  have e1 := valB_drop W (zs.set 0 (v : Int)) 0
  have e2 := valB_drop W L 0
  rw [List.drop_zero] at e1 e2
  rw [e1, getD_set_self _ (by omega), Int.toNat_natCast, List.drop_set_of_lt (by omega), e2]
  have := shlDown_alg W (2 ^ s) (L.getD 0 0).toNat _ _ _ 0 v _ (by rw [Nat.add_zero]; exact hv) hx h4
  rw [Nat.add_zero] at this
  exact this
theorem val_zeros_append (k : Nat) (xs : List Int) : val (List.replicate k 0 ++ xs) = W ^ k * val xs := by
  unfold val
  rw [valB_append, valB_zeros, List.length_replicate, Nat.zero_add]
theorem val_snoc_zero (xs : List Int) : val (xs ++ [0]) = val xs := by
  unfold val
  rw [valB_snoc]
  simp

/-- places below k hold shifted words, those from k on hold what they held -/
def ShrUp (L : List Int) (s k : Nat) (zs : List Int) : Prop :=
  zs.length = L.length ∧ Dg W zs ∧ (∀ j, k ≤ j → zs.getD j 0 = L.getD j 0) ∧ valB W (zs.take k) + W ^ k * (valB W (L.drop k) / 2 ^ s) = valB W L / 2 ^ s
theorem shrUp_0 {L : List Int} (s : Nat) (hd : Dg W L) : ShrUp L s 0 L := by
  refine ⟨rfl, hd, fun j _ => rfl, ?_⟩
  simp [valB]
theorem shrUp_step {L zs : List Int} {s k v : Nat} (hs : s < 64) (hd : Dg W L) (h : ShrUp L s k zs) (hk : k < L.length) (hv1 : v < W) (hv : v = (L.getD k 0).toNat / 2 ^ s + 2 ^ (64 - s) * ((L.getD (k + 1) 0).toNat % 2 ^ s)) :
    ShrUp L s (k + 1) (zs.set k (v : Int)) := by
  obtain ⟨h1, h2, h3, h4⟩ := h
  have hR := shr_half W (2 ^ s) (2 ^ (64 - s)) (L.getD k 0).toNat (L.getD (k + 1) 0).toNat _ _ (W_split (by omega)) (Nat.two_pow_pos s) (valB_drop W L (k + 1))
  rw [← valB_drop, ← hv] at hR
  refine ⟨by simpa using h1, h2.set _ (Int.natCast_nonneg _) (Int.ofNat_lt.2 hv1), fun j hj => ?_, ?_⟩
  · rw [getD_set_ne _ (by omega)]; exact h3 j (by omega)
  · rw [valB_take_succ, getD_set_self _ (by omega), Int.toNat_natCast, List.take_set_of_le (by omega), Nat.pow_succ]
    exact shr_algebra W _ _ _ _ _ _ _ rfl h4 hR
theorem shrUp_end {L zs : List Int} {s : Nat} (h : ShrUp L s L.length zs) : val zs = val L / 2 ^ s := by
  obtain ⟨h1, h2, h3, h4⟩ := h
  rw [List.drop_length, List.take_of_length_le (by omega)] at h4
  unfold val
  have e : valB W [] / 2 ^ s = 0 := by simp [valB]
  rw [e, Nat.mul_zero, Nat.add_zero] at h4
  exact h4
theorem val_drop_div {xs : List Int} (h : Dg W xs) (m : Nat) : val (xs.drop (m / 64)) / 2 ^ (m % 64) = val xs / 2 ^ m := by
  unfold val
  rw [← valB_div W_pos h, Nat.div_div_eq_div_mul, pow_shift]

end Go.Proofs.YthpbaaanbimapaaGreatDoor
