/-
  Where the listed variable reads as the row says, its cells hold the factorials of 0 to 13. Condition: the row's own premise on the listed variable.
-/
import Derived.Test.YtibgpeaplmcogaaGreatDoorFrFromAllT
import Derived.Test.YtibgpeaplmcogaaGreatDoorLnRcAllT
import Derived.Test.YtibgpeaplmcogaaGreatDoorLnTrAllT
import Derived.Test.YtibgpeaplmcogaaGreatDoorRows
import Derived.LaidMore
import Derived.Lay
namespace Go.Proofs.YtibgpeaplmcogaaGreatDoor
set_option maxRecDepth 100000
open Go.RowKit
set_option linter.unusedVariables false
set_option linter.unusedSimpArgs false

/-- the doubles, or the number of the instruction and the error -/
def RetFl (r : Except (Nat × Int) (List Nat)) (w : World) (e : Ending) (w' : World) : Prop := match r with
  | .ok v => (∃ A n c, e = .returned (.tuple #[.slice A n c, .int .i64 0, .int .i64 0]) ∧ Sl w' A n c (nts v)) ∧ Below w.heap.size w w'
  | .error (i, k) => e = .returned (.tuple #[.slice none 0 0, .int .i64 (i : Int), .int .i64 k]) ∧ Below w.heap.size w w'
noncomputable def flAll (l : List PI) (ins : List Nat) : Except (Nat × Int) (List Nat) := if progB l = true then evTo (flSt ins) l l.length else .error (0, 1)
theorem flAll_no {l : List PI} {ins : List Nat} (h : progB l = false) : flAll l ins = .error (0, 1) := by unfold flAll; rw [h]; rfl
theorem flAll_yes {l : List PI} {ins : List Nat} (h : progB l = true) : flAll l ins = evTo (flSt ins) l l.length := by unfold flAll; rw [if_pos h]
theorem make_W (w : World) (n : Nat) (hn : n ≤ 1000000) : ∃ w1, (Instr.makeSlice 23 (.int .i64 0) (.int .i64 (n : Int))).run Tryz.prog w = .ok (.slice (some ⟨w.heap.size, 0, none⟩) 0 n) w1 ∧ Own 76 w.heap.size w1 (.slice (some ⟨w.heap.size, 0, none⟩) 0 n) [] ∧ Below w.heap.size w w1 := by
  obtain ⟨i, h1, h2, h3, h4⟩ := info_parts infoW
  have hb : (i.bytes : Int) * (n : Int) ≤ 281474976710656 := by rw [h4]; omega
  have hr := run_make (P := Tryz.prog) w 23 76 i _ Tryz.underlying23 h1 h2 .i64 .i64 0 n (by omega) (by omega) hb (by omega)
  simp only [Int.toNat_natCast, Int.toNat_zero, h3, Nat.mul_one] at hr
  exact ⟨_, hr, ⟨rfl, .inr ⟨w.heap.size, n, _, rfl, Nat.le_refl _, heap_alloc_new w _, Nat.zero_le _, by unfold maxLen; omega, by rw [size_madeCells, Nat.mul_one], by simp [vs]⟩⟩, below_alloc _ _⟩

set_option maxRecDepth 100000 in
set_option maxHeartbeats 4000000 in
theorem ev_float {w : World} {A B : Option Addr} {n c m d : Nat} {xs : List RI} {ins : List Nat} (h : SlP w A n c xs) (hs : Shrt 20 xs) (hi : Sl w B m d (nts ins)) (zi : AllW ins) (hn : n ≤ 300) (hm : m ≤ 1000) (hF : Fac w) :
    Calls Tryz.prog 38 #[.slice A n c, .slice B m d] w (RetFl (flAll (xs.map RI.pi) ins) w) := by
  have hlen : (xs.map RI.pi).length = n := by rw [List.length_map]; exact h.1.1
  have P1 := line_right h hs (by omega) (by omega)
  have hp := progB_iff (xs.map RI.pi)
  have hexy := fun hh => @flAll_yes (xs.map RI.pi) ins hh
  have hexn := fun hh => @flAll_no (xs.map RI.pi) ins hh
  have HP1 := Lib.hid P1
  clear P1
  generalize progB (xs.map RI.pi) = p at *
  cases p
  case false =>
    rw [hexn rfl]
    clear hexn hexy hp
    go_enter Tryz.func38, Tryz.ntmps38
    go_wp2_with fail
    with_reducible refine HP1.out.mono ?_
    rintro _ w1 ⟨rfl, b1⟩
    go_wp2_with fail
    go_ret3
    exact ⟨rfl, b1⟩
  case true =>
  rw [hexy rfl, hlen]
  have HL := Lib.hid hlen
  have hprog := hp.1 rfl
  clear hexn hexy hp hlen
  obtain ⟨R, hR⟩ : ∃ R, R = evTo (flSt ins) (xs.map RI.pi) n := ⟨_, rfl⟩
  rw [← hR]
  have HR := Lib.hid hR
  clear hR
  have hil := hi.len
  rw [nts_len] at hil
  obtain ⟨i0, hi0, hz0, hz1, hz2⟩ := info_parts infoW
  have HPR := Lib.hid hprog
  have HSH := Lib.hid hs
  have HI := Lib.hid hi
  have HIL := Lib.hid hil
  clear hprog hs hi hil
  go_enter Tryz.func38, Tryz.ntmps38
  go_wp2_with fail
  with_reducible refine HP1.out.mono ?_
  rintro _ w3 ⟨rfl, y3⟩
  clear HP1
  obtain ⟨w4, hmk, ho4, b4⟩ := make_W w3 n (by omega)
  have y4 : Below w.heap.size w w4 := bb y3 b4
  have HO : Hid (Own 76 w.heap.size w4 (.slice (some ⟨w3.heap.size, 0, none⟩) 0 n) (nts [])) := Lib.hid (ho4.mono y3.size)
  clear ho4
  go_wp2_with fail
  clear hmk
  go_loopw [7, 18] (fun vv iv wr => ∃ (j : Nat) (v : List Nat), j ≤ n ∧ iv = .int .i64 j ∧ Hid (Own 76 w.heap.size wr vv (nts v)) ∧ Hid (evTo (flSt ins) (xs.map RI.pi) j = .ok v) ∧ Hid (AllW v) ∧ Below w.heap.size w wr) (fun _ iv _ => n - mes iv)
  case atStart => exact ⟨0, [], by omega, rfl, HO, Lib.hid rfl, Lib.hid (fun X hX => by simp at hX), y4⟩
  case round =>
    clear HO y3 y4 b4
    obtain ⟨j, v, hj, rfl, HV, HE, HZ, hb⟩ := hrel
    have hvl : v.length = j := evTo_len HE.out
    obtain ⟨A', c', ev⟩ := own_form HV.out
    rw [nts_len, hvl] at ev
    subst ev
    have HVL := Lib.hid hvl
    clear hvl
    by_cases hj2 : j < n
    · obtain ⟨b0, off, x, rfl, hlt, hxk, hok, c0, c1, c2, c3, c4, c5⟩ := (h.below hb).at_ hj2
      have hp := pi_at hxk
      have hfit : fits vq nq x.pi j := by rw [← hp]; exact HPR.out.1 j (by rw [HL.out]; exact hj2)
      obtain ⟨hx1, hx2⟩ := HSH.out x (mem_at hxk)
      have hend : x.op = 1 ∧ ¬ x.a.toNat < ins.length → R = .error (j, 11) := fun hh => by
        rw [HR.out]
        refine evTo_err (evTo_stop HE.out ?_) n (by omega)
        rw [hp]
        unfold flSt
        rw [if_pos (show x.pi.op = 1 ∧ ¬ x.pi.a.toNat < ins.length from hh)]
      have hnext : ¬ (x.op = 1 ∧ ¬ x.a.toNat < ins.length) → evTo (flSt ins) (xs.map RI.pi) (j + 1) = .ok (v ++ [flv ins x.pi v]) := fun hh => by
        refine evTo_step HE.out ?_
        rw [hp]
        unfold flSt
        rw [if_neg (show ¬ (x.pi.op = 1 ∧ ¬ x.pi.a.toNat < ins.length) from hh)]
      have hlt2 := flv_lt zi HZ.out x.pi
      obtain ⟨V, hW, Bx, hb1⟩ := box0 27 wr #[.int .i64 x.op, .int .i64 x.a, .int .i64 x.b, .bool x.q.s, .slice x.q.A x.q.n x.q.c, .slice x.q.A' x.q.n' x.q.c']
      have FV := fun hin => fl_value (ins := ins) (v := v) (RI.below hok hb1) ((HV.out.sl HZ.out.us).below hb1) (HI.out.below (bb hb hb1)) HZ.out zi (hF.below (bb hb hb1)) hx1 hx2 hfit hin
      have HW := Lib.hid hW
      clear hW Bx hok hx1 hx2
      clear hxk hp
      have hin0 := fun (h1 : x.op = 1) => (show 0 ≤ x.a from (fit_in (n := j) (a := x.a) (b := x.b) (q := (x.q.s, x.q.z, x.q.z')) (by
        have h3 : fits vq nq ⟨x.op, x.a, x.b, (x.q.s, x.q.z, x.q.z')⟩ j := hfit
        rw [h1] at h3; exact h3)).1)
      clear hfit
      obtain ⟨op, a, b, q⟩ := x
      simp only at c0 c1 c2 c3 c4 c5 FV HW hend hnext hin0
      by_cases h1 : op = 1
      · subst h1
        have ha0 := hin0 rfl
        obtain ⟨i, rfl⟩ : ∃ i : Nat, a = (i : Int) := ⟨a.toNat, by omega⟩
        clear hin0
        by_cases hi1 : i < m
        · have HK := Lib.hid (FV (fun _ => by have := HIL.out; omega))
          clear FV
          have HEV2 := Lib.hid (hnext (fun hh => hh.2 (by have := HIL.out; omega)))
          have HZ2 := Lib.hid (HZ.out.snoc hlt2)
          generalize flv ins (RI.pi ⟨1, (i : Int), b, q⟩) v = X at *
          clear hnext hend hlt2
          go_wp2_with fail
          rw [HW.out]
          with_reducible refine HK.out.mono ?_
          rintro _ w2 ⟨rfl, b2⟩
          have y2 : Below w.heap.size w w2 := bb hb (bb hb1 b2)
          clear HK
          have HO2 := Lib.hid (HV.out.below (bb hb1 b2))
          have hvs : (nts v).length = j := by rw [nts_len]; exact HVL.out
          have HVS := Lib.hid hvs
          clear hvs
          go_wp2_with (at_builtin; refine wpList_append_own _ rfl _ _ 23 rfl w.heap.size 76 i0 (.int .u64 0) 1 8 Tryz.underlying23 hi0 hz0 hz1 hz2 rfl (by decide) _ (nts v).length (vs (nts v)) rfl (HO2.out.out.alloc _) ⟨w2.heap.size, 0, none⟩ 1 1 [.int .u64 (X : Int)] rfl rfl ?c1 ?c2 ?c3 ?c4 ?c5 ?_)
          case c1 => exact cell_one_new _ _ _
          case c2 => intro u hu; simp at hu; subst hu; rfl
          case c3 => have := HVS.out; unfold maxLen; omega
          case c4 => have := HVS.out; omega
          case c5 => have := y2.size; simp; omega
          intro v' w4 hown hgrow _
          have hbn := own_below y2 HO2.out hgrow
          have HOQ : Hid (Own 76 w.heap.size w4 v' (nts (v ++ [X]))) := Lib.hid (by
            have h9 : Own 76 w.heap.size w4 v' (nts v ++ [(X : Int)]) := Own.snoc hown
            have e9 : nts (v ++ [X]) = nts v ++ [(X : Int)] := by unfold nts; simp
            rw [e9]; exact h9)
          clear hown hgrow
          go_wp2_with fail
          go_roundw
          case rel => exact ⟨j + 1, v ++ [X], by omega, by go_num, HOQ, HEV2, HZ2, hbn⟩
          case measure => simp [mes, intOf]; omega
        · have hRR := hend ⟨rfl, by have := HIL.out; omega⟩
          subst hRR
          clear FV hnext hend hlt2
          go_wp2_with fail
          go_ret3
          exact ⟨rfl, hb.alloc hb.size _⟩
      · have e1 : (op == 1) = false := by simpa using h1
        have HK := Lib.hid (FV (fun hh => absurd hh h1))
        clear FV hin0
        have HEV2 := Lib.hid (hnext (fun hh => h1 hh.1))
        have HZ2 := Lib.hid (HZ.out.snoc hlt2)
        generalize flv ins (RI.pi ⟨op, a, b, q⟩) v = X at *
        clear hnext hend hlt2
        go_wp2_with fail
        rw [HW.out]
        with_reducible refine HK.out.mono ?_
        rintro _ w2 ⟨rfl, b2⟩
        have y2 : Below w.heap.size w w2 := bb hb (bb hb1 b2)
        clear HK
        have HO2 := Lib.hid (HV.out.below (bb hb1 b2))
        have hvs : (nts v).length = j := by rw [nts_len]; exact HVL.out
        have HVS := Lib.hid hvs
        clear hvs
        go_wp2_with (at_builtin; refine wpList_append_own _ rfl _ _ 23 rfl w.heap.size 76 i0 (.int .u64 0) 1 8 Tryz.underlying23 hi0 hz0 hz1 hz2 rfl (by decide) _ (nts v).length (vs (nts v)) rfl (HO2.out.out.alloc _) ⟨w2.heap.size, 0, none⟩ 1 1 [.int .u64 (X : Int)] rfl rfl ?c1 ?c2 ?c3 ?c4 ?c5 ?_)
        case c1 => exact cell_one_new _ _ _
        case c2 => intro u hu; simp at hu; subst hu; rfl
        case c3 => have := HVS.out; unfold maxLen; omega
        case c4 => have := HVS.out; omega
        case c5 => have := y2.size; simp; omega
        intro v' w4 hown hgrow _
        have hbn := own_below y2 HO2.out hgrow
        have HOQ : Hid (Own 76 w.heap.size w4 v' (nts (v ++ [X]))) := Lib.hid (by
          have h9 : Own 76 w.heap.size w4 v' (nts v ++ [(X : Int)]) := Own.snoc hown
          have e9 : nts (v ++ [X]) = nts v ++ [(X : Int)] := by unfold nts; simp
          rw [e9]; exact h9)
        clear hown hgrow
        go_wp2_with fail
        go_roundw
        case rel => exact ⟨j + 1, v ++ [X], by omega, by go_num, HOQ, HEV2, HZ2, hbn⟩
        case measure => simp [mes, intOf]; omega
    · obtain rfl : j = n := by omega
      have hRR : R = .ok v := by rw [HR.out, HE.out]
      subst hRR
      go_wp2_with fail
      go_ret3
      exact ⟨⟨_, _, _, rfl, HV.out.sl HZ.out.us⟩, hb⟩

end Go.Proofs.YtibgpeaplmcogaaGreatDoor

namespace Go.Proofs.YtibgpeaplmcogaaGreatDoor
set_option maxRecDepth 100000
open Go.RowKit
set_option linter.unusedVariables false
set_option linter.unusedSimpArgs false

def longB (k : Int) (q : RQ) : Bool := decide (k < q.n ∨ k < q.n')
def anyI (xs : List RI) : Bool := xs.any fun x => longB 8 x.q
def anyR (k : Int) (xs : List RQ) : Bool := xs.any fun x => longB k x
def manyB (xs : List RI) : Bool := anyI xs || decide (300 < xs.length)
theorem anyI_yes {xs : List RI} {x : RI} (hx : x ∈ xs) (h : longB 8 x.q = true) : anyI xs = true := List.any_eq_true.2 ⟨x, hx, h⟩
theorem anyI_no {xs : List RI} (h : ∀ (i : Nat) (x : RI), xs[i]? = some x → longB 8 x.q = false) : anyI xs = false := by
  unfold anyI
  rw [Bool.eq_false_iff]
  intro hh
  obtain ⟨x, hx, h1⟩ := List.any_eq_true.1 hh
  obtain ⟨j, hj⟩ := List.mem_iff_getElem?.1 hx
  rw [h j x hj] at h1
  cases h1
theorem anyR_yes {k : Int} {xs : List RQ} {x : RQ} (hx : x ∈ xs) (h : longB k x = true) : anyR k xs = true := List.any_eq_true.2 ⟨x, hx, h⟩
theorem anyR_no {k : Int} {xs : List RQ} (h : ∀ (i : Nat) (x : RQ), xs[i]? = some x → longB k x = false) : anyR k xs = false := by
  unfold anyR
  rw [Bool.eq_false_iff]
  intro hh
  obtain ⟨x, hx, h1⟩ := List.any_eq_true.1 hh
  obtain ⟨j, hj⟩ := List.mem_iff_getElem?.1 hx
  rw [h j x hj] at h1
  cases h1
theorem anyI_short {xs : List RI} (h : anyI xs = false) : Shrt 8 xs := by
  intro x hx
  have h1 : ¬ longB 8 x.q = true := fun hh => by rw [anyI_yes hx hh] at h; cases h
  unfold longB at h1
  rw [decide_eq_true_eq] at h1
  omega
theorem anyR_short {k : Nat} {xs : List RQ} (h : anyR k xs = false) : ∀ x ∈ xs, x.n ≤ k ∧ x.n' ≤ k := by
  intro x hx
  have h1 : ¬ longB k x = true := fun hh => by rw [anyR_yes hx hh] at h; cases h
  unfold longB at h1
  rw [decide_eq_true_eq] at h1
  omega

set_option maxHeartbeats 2000000 in
theorem law_many {w : World} {A : Option Addr} {n c : Nat} {xs : List RI} (h : SlP w A n c xs) :
    Calls Tryz.prog 9 #[.slice A n c] w (RetBl (manyB xs) w) := by
  have hlen : xs.length = n := h.1.1
  have hmx : n ≤ 9223372036854775807 := by have h1 := h.1.2.1; have h2 := h.1.2.2.1; unfold maxLen at h2; omega
  have HL := Lib.hid hlen
  clear hlen
  go_enter Tryz.func9, Tryz.ntmps9
  go_wp2_with fail
  go_loopw [6] (fun iv wr => ∃ j : Nat, j ≤ n ∧ iv = .int .i64 j ∧ Below w.heap.size w wr ∧ Hid (∀ (i : Nat) x, i < j → xs[i]? = some x → longB 8 x.q = false)) (fun iv _ => n - mes iv)
  case atStart => exact ⟨0, by omega, rfl, Below.refl _ _, Lib.hid (fun i x hi => absurd hi (by omega))⟩
  case round =>
    obtain ⟨j, hj, rfl, hb, HF⟩ := hrel
    by_cases hj2 : j < n
    · obtain ⟨b0, off, x, rfl, hlt, hxk, hok, c0, c1, c2, c3, c4, c5⟩ := (h.below hb).at_ hj2
      have LG := plain_long (w := wr) (s := x.q.s) (A := x.q.A) (A' := x.q.A') (n := x.q.n) (n' := x.q.n') (c := x.q.c) (c' := x.q.c') 8
      obtain ⟨r, hr⟩ : ∃ r, longB 8 x.q = r := ⟨_, rfl⟩
      have LG2 : Calls Tryz.prog 43 #[.agg #[.bool x.q.s, .slice x.q.A x.q.n x.q.c, .slice x.q.A' x.q.n' x.q.c'], .int .i64 8] wr (RetBl (longB 8 x.q) wr) := LG
      rw [hr] at LG2
      have HK := Lib.hid LG2
      have HR := Lib.hid hr
      clear LG LG2 hok hr
      cases r
      case true =>
        have hyes := anyI_yes (mem_at hxk) HR.out
        clear HF hxk
        go_wp2_with fail
        with_reducible refine HK.out.mono ?_
        rintro _ w2 ⟨rfl, b2⟩
        go_wp2_with fail
        go_ret
        exact ⟨by unfold manyB; rw [hyes]; rfl, bb hb b2⟩
      case false =>
        go_wp2_with fail
        with_reducible refine HK.out.mono ?_
        rintro _ w2 ⟨rfl, b2⟩
        go_wp2_with fail
        go_roundw
        case rel => exact ⟨j + 1, by omega, by go_num, bb hb b2, Lib.hid (fun i y hi hy => by
          rcases Nat.lt_or_eq_of_le (Nat.le_of_lt_succ hi) with h9 | h9
          · exact HF.out i y h9 hy
          · rw [h9, hxk] at hy; cases hy; exact HR.out)⟩
        case measure => simp [mes, intOf]; omega
    · obtain rfl : j = n := by omega
      have hno := anyI_no (xs := xs) (fun i x hx => HF.out i x (by
        have := HL.out
        rcases Nat.lt_or_ge i xs.length with h9 | h9
        · omega
        · rw [List.getElem?_eq_none h9] at hx; cases hx) hx)
      have hm : manyB xs = decide (300 < j) := by unfold manyB; rw [hno, Bool.false_or, HL.out]
      rcases Nat.lt_or_ge 300 j with h9 | h9
      · rw [decide_eq_true h9] at hm
        go_wp2_with fail
        go_ret
        exact ⟨by rw [hm]; simp; omega, hb⟩
      · rw [decide_eq_false (by omega)] at hm
        go_wp2_with fail
        go_ret
        exact ⟨by rw [hm]; simp; omega, hb⟩

set_option maxHeartbeats 2000000 in
theorem plain_longer {w : World} {A : Option Addr} {n c : Nat} {xs : List RQ} (h : SlR w A n c xs) (k : Int) :
    Calls Tryz.prog 56 #[.slice A n c, .int .i64 k] w (RetBl (anyR k xs) w) := by
  have hlen : xs.length = n := h.1.1
  have hmx : n ≤ 9223372036854775807 := by have h1 := h.1.2.1; have h2 := h.1.2.2.1; unfold maxLen at h2; omega
  have HL := Lib.hid hlen
  clear hlen
  go_enter Tryz.func56, Tryz.ntmps56
  go_wp2_with fail
  go_loopw [8] (fun iv wr => ∃ j : Nat, j ≤ n ∧ iv = .int .i64 j ∧ Below w.heap.size w wr ∧ Hid (∀ (i : Nat) x, i < j → xs[i]? = some x → longB k x = false)) (fun iv _ => n - mes iv)
  case atStart => exact ⟨0, by omega, rfl, Below.refl _ _, Lib.hid (fun i x hi => absurd hi (by omega))⟩
  case round =>
    obtain ⟨j, hj, rfl, hb, HF⟩ := hrel
    by_cases hj2 : j < n
    · obtain ⟨b0, off, x, rfl, hlt, hxk, hok, c0, c1, c2⟩ := (h.below hb).at_ hj2
      have LG := plain_long (w := wr) (s := x.s) (A := x.A) (A' := x.A') (n := x.n) (n' := x.n') (c := x.c) (c' := x.c') k
      obtain ⟨r, hr⟩ : ∃ r, longB k x = r := ⟨_, rfl⟩
      have LG2 : Calls Tryz.prog 43 #[.agg #[.bool x.s, .slice x.A x.n x.c, .slice x.A' x.n' x.c'], .int .i64 k] wr (RetBl (longB k x) wr) := LG
      rw [hr] at LG2
      have HK := Lib.hid LG2
      have HR := Lib.hid hr
      clear LG LG2 hok hr
      cases r
      case true =>
        have hyes := anyR_yes (mem_at hxk) HR.out
        clear HF hxk
        go_wp2_with fail
        with_reducible refine HK.out.mono ?_
        rintro _ w2 ⟨rfl, b2⟩
        go_wp2_with fail
        go_ret
        exact ⟨by rw [hyes]; rfl, bb hb b2⟩
      case false =>
        go_wp2_with fail
        with_reducible refine HK.out.mono ?_
        rintro _ w2 ⟨rfl, b2⟩
        go_wp2_with fail
        go_roundw
        case rel => exact ⟨j + 1, by omega, by go_num, bb hb b2, Lib.hid (fun i y hi hy => by
          rcases Nat.lt_or_eq_of_le (Nat.le_of_lt_succ hi) with h9 | h9
          · exact HF.out i y h9 hy
          · rw [h9, hxk] at hy; cases hy; exact HR.out)⟩
        case measure => simp [mes, intOf]; omega
    · obtain rfl : j = n := by omega
      have hno := anyR_no (xs := xs) (fun i x hx => HF.out i x (by
        have := HL.out
        rcases Nat.lt_or_ge i xs.length with h9 | h9
        · omega
        · rw [List.getElem?_eq_none h9] at hx; cases hx) hx)
      go_wp2_with fail
      go_ret
      exact ⟨by rw [hno]; rfl, hb⟩

def FewP (n m k : Nat) (xs : List RI) (is fs : List RQ) : Prop := manyB xs = false ∧ n ≤ 60 ∧ m ≤ 30 ∧ k ≤ 60 ∧ anyR 3 is = false ∧ anyR 3 fs = false
set_option maxRecDepth 100000 in
set_option maxHeartbeats 4000000 in
theorem law_few {w : World} {A B C : Option Addr} {n c m d k f : Nat} {xs : List RI} {is fs : List RQ} (h : SlP w A n c xs) (hi : SlR w B m d is) (hf : SlR w C k f fs) :
    ∃ b : Bool, (b = true ↔ FewP n m k xs is fs) ∧ Calls Tryz.prog 33 #[.slice A n c, .slice B m d, .slice C k f] w (RetBl b w) := by
  have M := Lib.hid (law_many h)
  have L1 := fun (w1 : World) (hb : Below w.heap.size w w1) => plain_longer (hi.below hb) 3
  have L2 := fun (w1 : World) (hb : Below w.heap.size w w1) => plain_longer (hf.below hb) 3
  have H1 := Lib.hid L1
  have H2 := Lib.hid L2
  clear L1 L2 h hi hf
  unfold FewP
  generalize manyB xs = p at *
  generalize anyR 3 is = q at *
  generalize anyR 3 fs = r at *
  cases p
  case true =>
    refine ⟨false, by simp, ?_⟩
    go_enter Tryz.func33, Tryz.ntmps33
    go_wp2_with fail
    with_reducible refine M.out.mono ?_
    rintro _ w1 ⟨rfl, b1⟩
    go_wp2_with fail
    go_ret
    exact ⟨rfl, b1⟩
  case false =>
  by_cases h1 : n ≤ 60
  case neg =>
    have e1 : decide ((n : Int) ≤ 60) = false := decide_eq_false (by omega)
    have e2 : decide (n ≤ 60) = false := decide_eq_false (by omega)
    refine ⟨false, by simp [h1], ?_⟩
    go_enter Tryz.func33, Tryz.ntmps33
    go_wp2_with fail
    with_reducible refine M.out.mono ?_
    rintro _ w1 ⟨rfl, b1⟩
    go_wp2_with fail
    go_ret
    exact ⟨rfl, b1⟩
  case pos =>
  by_cases h2 : m ≤ 30
  case neg =>
    have e1 : decide ((m : Int) ≤ 30) = false := decide_eq_false (by omega)
    have e2 : decide (m ≤ 30) = false := decide_eq_false (by omega)
    refine ⟨false, by simp [h2], ?_⟩
    go_enter Tryz.func33, Tryz.ntmps33
    go_wp2_with fail
    with_reducible refine M.out.mono ?_
    rintro _ w1 ⟨rfl, b1⟩
    go_wp2_with fail
    go_ret
    exact ⟨rfl, b1⟩
  case pos =>
  by_cases h3 : k ≤ 60
  case neg =>
    have e1 : decide ((k : Int) ≤ 60) = false := decide_eq_false (by omega)
    have e2 : decide (k ≤ 60) = false := decide_eq_false (by omega)
    refine ⟨false, by simp [h3], ?_⟩
    go_enter Tryz.func33, Tryz.ntmps33
    go_wp2_with fail
    with_reducible refine M.out.mono ?_
    rintro _ w1 ⟨rfl, b1⟩
    go_wp2_with fail
    go_ret
    exact ⟨rfl, b1⟩
  case pos =>
  cases q
  case true =>
    refine ⟨false, by simp, ?_⟩
    go_enter Tryz.func33, Tryz.ntmps33
    go_wp2_with fail
    with_reducible refine M.out.mono ?_
    rintro _ w1 ⟨rfl, b1⟩
    go_wp2_with fail
    with_reducible refine (H1.out _ b1).mono ?_
    rintro _ w2 ⟨rfl, b2⟩
    go_wp2_with fail
    go_ret
    exact ⟨rfl, bb b1 b2⟩
  case false =>
  cases r
  case true =>
    refine ⟨false, by simp, ?_⟩
    go_enter Tryz.func33, Tryz.ntmps33
    go_wp2_with fail
    with_reducible refine M.out.mono ?_
    rintro _ w1 ⟨rfl, b1⟩
    go_wp2_with fail
    with_reducible refine (H1.out _ b1).mono ?_
    rintro _ w2 ⟨rfl, b2⟩
    go_wp2_with fail
    with_reducible refine (H2.out _ (bb b1 b2)).mono ?_
    rintro _ w3 ⟨rfl, b3⟩
    go_wp2_with fail
    go_ret
    exact ⟨rfl, bb b1 (bb b2 b3)⟩
  case false =>
    refine ⟨true, by simp [h1, h2, h3], ?_⟩
    go_enter Tryz.func33, Tryz.ntmps33
    go_wp2_with fail
    with_reducible refine M.out.mono ?_
    rintro _ w1 ⟨rfl, b1⟩
    go_wp2_with fail
    with_reducible refine (H1.out _ b1).mono ?_
    rintro _ w2 ⟨rfl, b2⟩
    go_wp2_with fail
    with_reducible refine (H2.out _ (bb b1 b2)).mono ?_
    rintro _ w3 ⟨rfl, b3⟩
    go_wp2_with fail
    go_ret
    exact ⟨rfl, bb b1 (bb b2 b3)⟩

end Go.Proofs.YtibgpeaplmcogaaGreatDoor

namespace Go.Proofs.YtibgpeaplmcogaaGreatDoor
set_option maxRecDepth 100000
open Go.RowKit
set_option linter.unusedVariables false
set_option linter.unusedSimpArgs false

theorem SlC.new {k : Nat} {V : Type} {cells : V → List Value} {ok : World → V → Prop} (w : World) (arr : Array Value) (t : TypeId) (xs : List V) (hl : ∀ x ∈ xs, (cells x).length = k) (he : arr.toList = xs.flatMap cells) (hok : ∀ x ∈ xs, ok (w.alloc (.cells arr t)) x) (hn : xs.length ≤ maxLen) :
    SlC k cells ok (w.alloc (.cells arr t)) (some ⟨w.heap.size, 0, none⟩) xs.length xs.length xs := by
  refine ⟨⟨rfl, Nat.le_refl _, hn, fun x hx => ⟨hok x hx, hl x hx⟩⟩, fun h0 => ⟨w.heap.size, 0, rfl, by simp, fun j hj i hi => ?_⟩⟩
  rw [← flat_at xs hl j i hi, ← he, cell_of_row _ w.heap.size _ arr t (0, 0) (heap_alloc_new w _), Nat.zero_add]
  simp
theorem SlC.take {k : Nat} {V : Type} {cells : V → List Value} {ok : World → V → Prop} {w : World} {A : Option Addr} {n c m : Nat} {xs : List V} (h : SlC k cells ok w A n c xs) (hm : m ≤ n) : SlC k cells ok w A m c (xs.take m) := by
  refine ⟨⟨by rw [List.length_take, h.1.1]; omega, by have := h.1.2.1; omega, h.1.2.2.1, fun x hx => h.1.2.2.2 x (List.mem_of_mem_take hx)⟩, fun h0 => ?_⟩
  obtain ⟨b, off, e, hlt, hc⟩ := h.2 (by omega)
  refine ⟨b, off, e, hlt, fun j hj i hi => ?_⟩
  rw [hc j (by omega) i hi, List.getElem?_take, if_pos hj]
def ins0 (op : Int) : RI := ⟨op, 0, 0, ⟨false, none, 0, 0, [], none, 0, 0, []⟩⟩
theorem ins0_ok (w : World) {op : Int} (h : I64 op) : (ins0 op).ok w := ⟨h, by unfold I64; simp [ins0], by unfold I64; simp [ins0], Sl.nil _ _ _, Sl.nil _ _ _, by unfold maxLen; simp [ins0], by unfold maxLen; simp [ins0]⟩
theorem ins0_sh {l : List RI} (h : ∀ x ∈ l, ∃ op, x = ins0 op) {N : Nat} : Shrt N l := by
  intro x hx
  obtain ⟨op, rfl⟩ := h x hx
  exact ⟨Nat.zero_le _, Nat.zero_le _⟩
def L3 : List RI := [ins0 1, ins0 6, ins0 7]
def C3 : Array Value := #[.int .i64 1, .int .i64 0, .int .i64 0, .bool false, .slice none 0 0, .slice none 0 0, .int .i64 6, .int .i64 0, .int .i64 0, .bool false, .slice none 0 0, .slice none 0 0, .int .i64 7, .int .i64 0, .int .i64 0, .bool false, .slice none 0 0, .slice none 0 0]
theorem L3_new (w : World) : SlP (w.alloc (.cells C3 27)) (some ⟨w.heap.size, 0, none⟩) 3 3 L3 := by
  refine SlC.new w C3 27 L3 (fun x _ => rfl) rfl (fun x hx => ?_) (by unfold maxLen; simp [L3])
  unfold L3 at hx
  simp only [List.mem_cons, List.not_mem_nil, or_false] at hx
  rcases hx with rfl | rfl | rfl <;> exact ins0_ok _ (by unfold I64; omega)
theorem L3_sh (N : Nat) : Shrt N L3 := ins0_sh (fun x hx => by
  unfold L3 at hx
  simp only [List.mem_cons, List.not_mem_nil, or_false] at hx
  rcases hx with rfl | rfl | rfl <;> exact ⟨_, rfl⟩)
theorem L2_sh (N : Nat) : Shrt N (L3.take 2) := fun x hx => L3_sh N x (List.mem_of_mem_take hx)
theorem L3_prog : progB (L3.map RI.pi) = true := by
  refine (progB_iff _).2 ⟨fun i hi => ?_, by decide⟩
  have hi' : i < 3 := hi
  have h3 : i = 0 ∨ i = 1 ∨ i = 2 := by omega
  rcases h3 with rfl | rfl | rfl
  · show fits vq nq ⟨1, 0, 0, (false, [], [])⟩ 0
    simp [fits, nq]
  · show fits vq nq ⟨6, 0, 0, (false, [], [])⟩ 1
    simp [fits, nq, arity]
  · show fits vq nq ⟨7, 0, 0, (false, [], [])⟩ 2
    simp [fits, nq, arity]
theorem L2_prog : progB ((L3.take 2).map RI.pi) = true := by
  refine (progB_iff _).2 ⟨fun i hi => ?_, by decide⟩
  have hi' : i < 2 := hi
  have h3 : i = 0 ∨ i = 1 := by omega
  rcases h3 with rfl | rfl
  · show fits vq nq ⟨1, 0, 0, (false, [], [])⟩ 0
    simp [fits, nq]
  · show fits vq nq ⟨6, 0, 0, (false, [], [])⟩ 1
    simp [fits, nq, arity]
theorem ev_a : evTo (exSt [rq false (val [3]) (val [2])] [] ((L3.take 2).map RI.pi)) ((L3.take 2).map RI.pi) 2 = .ok [rq false 3 2, rq false 9 4] := by kernel_rfl
theorem ev_b : evTo (exSt [rq false (val []) (val [1])] [] (L3.map RI.pi)) (L3.map RI.pi) 3 = .error (2, 4) := by kernel_rfl
theorem ev_c : evTo (flSt [0]) (L3.map RI.pi) 3 = .ok [0, 0, 9221120237041090560] := by kernel_rfl

end Go.Proofs.YtibgpeaplmcogaaGreatDoor

namespace Go.Proofs.YtibgpeaplmcogaaGreatDoor
set_option maxRecDepth 100000
open Go.RowKit
set_option linter.unusedVariables false
set_option linter.unusedSimpArgs false

def q32 (a b : Nat) : RQ := ⟨false, some ⟨a, 0, none⟩, 1, 1, [3], some ⟨b, 0, none⟩, 1, 1, [2]⟩
def q01 (a : Nat) : RQ := ⟨false, none, 0, 0, [], some ⟨a, 0, none⟩, 1, 1, [1]⟩
theorem lits_a (w : World) : ∃ V, (((w.alloc (.cells #[.int .i64 1, .int .i64 0, .int .i64 0, .bool false, .slice none 0 0, .slice none 0 0, .int .i64 6, .int .i64 0, .int .i64 0, .bool false, .slice none 0 0, .slice none 0 0, .int .i64 7, .int .i64 0, .int .i64 0, .bool false, .slice none 0 0, .slice none 0 0] 27)).alloc (.cells #[.int .u64 3] 76)).alloc (.cells #[.int .u64 2] 76)).alloc (.cells #[.bool false, .slice (some ⟨w.heap.size + 1, 0, none⟩) 1 1, .slice (some ⟨w.heap.size + 1 + 1, 0, none⟩) 1 1] 25) = V ∧
    SlP V (some ⟨w.heap.size, 0, none⟩) 3 3 L3 ∧ SlR V (some ⟨w.heap.size + 1 + 1 + 1, 0, none⟩) 1 1 [q32 (w.heap.size + 1) (w.heap.size + 1 + 1)] ∧ Below w.heap.size w V := by
  obtain ⟨V1, e1⟩ : ∃ V1, w.alloc (.cells #[.int .i64 1, .int .i64 0, .int .i64 0, .bool false, .slice none 0 0, .slice none 0 0, .int .i64 6, .int .i64 0, .int .i64 0, .bool false, .slice none 0 0, .slice none 0 0, .int .i64 7, .int .i64 0, .int .i64 0, .bool false, .slice none 0 0, .slice none 0 0] 27) = V1 := ⟨_, rfl⟩
  have h1 : SlP V1 (some ⟨w.heap.size, 0, none⟩) 3 3 L3 := by rw [← e1]; exact L3_new w
  have b1 : Below w.heap.size w V1 := by rw [← e1]; exact below_alloc _ _
  have s1 : V1.heap.size = w.heap.size + 1 := by rw [← e1]; simp
  rw [e1]
  obtain ⟨V2, e2⟩ : ∃ V2, V1.alloc (.cells #[.int .u64 3] 76) = V2 := ⟨_, rfl⟩
  have t2 := sl_lit V1 3 (by unfold U; omega)
  have b2 := below_alloc V1 (.cells #[.int .u64 3] 76)
  have s2 : V2.heap.size = w.heap.size + 1 + 1 := by rw [← e2]; simp [s1]
  rw [e2] at t2 b2 ⊢
  obtain ⟨V3, e3⟩ : ∃ V3, V2.alloc (.cells #[.int .u64 2] 76) = V3 := ⟨_, rfl⟩
  have t3 := sl_lit V2 2 (by unfold U; omega)
  have b3 := below_alloc V2 (.cells #[.int .u64 2] 76)
  have s3 : V3.heap.size = w.heap.size + 1 + 1 + 1 := by rw [← e3]; simp [s2]
  rw [e3] at t3 b3 ⊢
  have b4 := below_alloc V3 (.cells #[.bool false, .slice (some ⟨w.heap.size + 1, 0, none⟩) 1 1, .slice (some ⟨w.heap.size + 1 + 1, 0, none⟩) 1 1] 25)
  rw [s1] at t2
  rw [s2] at t3
  refine ⟨_, rfl, ((h1.below b2).below b3).below b4, ?_, bb b1 (bb b2 (bb b3 b4))⟩
  rw [← s3]
  refine SlC.new V3 _ _ [q32 (w.heap.size + 1) (w.heap.size + 1 + 1)] (fun x hx => by rw [List.mem_singleton.1 hx]; rfl) (by rfl) (fun x hx => ?_) (by unfold maxLen; simp)
  rw [List.mem_singleton.1 hx]
  exact ⟨(t2.below b3).below b4, t3.below b4, by unfold maxLen; simp [q32], by unfold maxLen; simp [q32]⟩
theorem lits_b (w : World) : ∃ V, (w.alloc (.cells #[.int .u64 1] 76)).alloc (.cells #[.bool false, .slice none 0 0, .slice (some ⟨w.heap.size, 0, none⟩) 1 1] 25) = V ∧
    SlR V (some ⟨w.heap.size + 1, 0, none⟩) 1 1 [q01 w.heap.size] ∧ Below w.heap.size w V := by
  obtain ⟨V2, e2⟩ : ∃ V2, w.alloc (.cells #[.int .u64 1] 76) = V2 := ⟨_, rfl⟩
  have t2 := sl_lit w 1 U_1
  have b2 := below_alloc w (.cells #[.int .u64 1] 76)
  have s2 : V2.heap.size = w.heap.size + 1 := by rw [← e2]; simp
  rw [e2] at t2 b2 ⊢
  have b4 := below_alloc V2 (.cells #[.bool false, .slice none 0 0, .slice (some ⟨w.heap.size, 0, none⟩) 1 1] 25)
  refine ⟨_, rfl, ?_, bb b2 b4⟩
  rw [← s2]
  refine SlC.new V2 _ _ [q01 w.heap.size] (fun x hx => by rw [List.mem_singleton.1 hx]; rfl) (by rfl) (fun x hx => ?_) (by unfold maxLen; simp)
  rw [List.mem_singleton.1 hx]
  exact ⟨Sl.nil _ _ _, t2.below b4, by unfold maxLen; simp [q01], by unfold maxLen; simp [q01]⟩
theorem slr_nil (w : World) : SlR w none 0 0 [] := ⟨⟨rfl, Nat.le_refl _, by unfold maxLen; omega, by simp⟩, fun h0 => absurd h0 (by omega)⟩
theorem ex_a (a b : Nat) : exAll ((L3.take 2).map RI.pi) (allR [q32 a b]) (allR []) (qvs [q32 a b]) (qvs []) = .ok [rq false 3 2, rq false 9 4] := by
  have e1 : allR [q32 a b] = true := by
    show ((rightB false [3] [2]) && true) = true
    have : rightB false [3] [2] = true := by decide +kernel
    rw [this]; rfl
  have e2 : allR [] = true := rfl
  rw [e1, e2, exAll_yes L2_prog]
  exact ev_a
theorem ex_b (a : Nat) : exAll (L3.map RI.pi) (allR [q01 a]) (allR []) (qvs [q01 a]) (qvs []) = .error (2, 4) := by
  have e1 : allR [q01 a] = true := by
    show ((rightB false [] [1]) && true) = true
    have : rightB false [] [1] = true := by decide +kernel
    rw [this]; rfl
  have e2 : allR [] = true := rfl
  rw [e1, e2, exAll_yes L3_prog]
  exact ev_b
theorem fl_c : flAll (L3.map RI.pi) [0] = .ok [0, 0, 9221120237041090560] := by
  rw [flAll_yes L3_prog]
  exact ev_c

set_option maxRecDepth 100000 in
set_option maxHeartbeats 4000000 in
theorem same16 (w : World) (hF : Fac w) : Calls Tryz.prog 34 #[] w (RetBl true w) := by
  obtain ⟨V, hV, p1, r1, b0⟩ := lits_a w
  have X1 := ev_exact (p1.take (show 2 ≤ 3 by omega)) (L2_sh 64) r1 (fun x hx => by rw [List.mem_singleton.1 hx]; exact ⟨by simp [q32], by simp [q32]⟩) (slr_nil V) (by simp) (by omega) (by omega) (by omega)
  rw [ex_a] at X1
  have e4 : (rq false 9 4).num.natAbs = 9 ∧ (rq false 9 4).den = 4 := by decide +kernel
  have X2 := fun (w1 : World) (hb : Below V.heap.size V w1) (A : Option Addr) (g : Nat) (r : SlR w1 A 1 1 [q01 g]) => ev_exact (p1.below hb) (L3_sh 64) r (fun x hx => by rw [List.mem_singleton.1 hx]; exact ⟨by simp [q01], by simp [q01]⟩) (slr_nil w1) (by simp) (by omega) (by omega) (by omega)
  simp only [ex_b] at X2
  have X3 := fun (w1 : World) (hb : Below V.heap.size V w1) (A : Option Addr) (r : Sl w1 A 1 1 (nts [0])) => ev_float (p1.below hb) (L3_sh 20) r (fun x hx => by rw [List.mem_singleton.1 hx]; omega) (by omega) (by omega) (hF.below (bb b0 hb))
  simp only [fl_c] at X3
  have HX1 := Lib.hid X1
  have HX2 := Lib.hid X2
  have HX3 := Lib.hid X3
  have HV := Lib.hid hV
  have HE4 := Lib.hid e4
  clear X1 X2 X3 hV e4
  go_enter Tryz.func34, Tryz.ntmps34
  go_wp2_with fail
  rw [HV.out]
  with_reducible refine HX1.out.mono ?_
  rintro _ w1 ⟨⟨A1, n1, c1, rfl, q1⟩, b1⟩
  have hl1 : n1 = 2 := q1.len
  subst hl1
  obtain ⟨V2, hV2, r2, b2⟩ := lits_b w1
  have HV2 := Lib.hid hV2
  have HQ1 := Lib.hid q1
  clear hV2 q1
  go_wp2_with fail
  rw [HV2.out]
  with_reducible refine (HX2.out _ (bb b1 b2) _ _ r2).mono ?_
  rintro _ w3 ⟨rfl, b3⟩
  obtain ⟨V4, hV4⟩ : ∃ V4, w3.alloc (.cells #[.int .u64 0] 76) = V4 := ⟨_, rfl⟩
  have t4 := sl_lit w3 0 (by unfold U; omega)
  have b4 := below_alloc w3 (.cells #[.int .u64 0] 76)
  rw [hV4] at t4 b4
  have HV4 := Lib.hid hV4
  clear hV4
  go_wp2_with fail
  rw [HV4.out]
  with_reducible refine (HX3.out _ (bb b1 (bb b2 (bb b3 b4))) _ t4).mono ?_
  rintro _ w5 ⟨⟨A5, n5, c5, rfl, q5⟩, b5⟩
  have hl5 : n5 = 3 := q5.len
  subst hl5
  have y5 : Below w1.heap.size w1 w5 := bb b2 (bb b3 (bb b4 b5))
  obtain ⟨g1, o1, s1, A6, n6, c6, A7, n7, c7, rfl, hg1, k0, k1, k2, qq⟩ := (HQ1.out.below y5).at_ (show 1 < 2 by omega)
  have h1 := qq.2.1
  have h2 := qq.2.2
  have e5 : ([rq false 3 2, rq false 9 4] : List Rat).getD 1 0 = rq false 9 4 := rfl
  rw [e5, HE4.out.1] at h1
  rw [e5, HE4.out.2] at h2
  obtain ⟨rfl, g6, o6, rfl, hg6, k6⟩ := sl_word h1 (by omega) (by unfold W; omega)
  obtain ⟨rfl, g7, o7, rfl, hg7, k7⟩ := sl_word h2 (by omega) (by unfold W; omega)
  obtain ⟨g5, o5, rfl, hg5, k5⟩ := q5.2 (by omega)
  have k8 := k5 2 (by omega)
  rw [nts_at] at k8
  have e6 : ([0, 0, 9221120237041090560] : List Nat).getD 2 0 = 9221120237041090560 := rfl
  rw [e6] at k8
  clear k5 h1 h2 qq q5 e5 e6 HX1 HX2 HX3
  go_wp2
  go_ret
  exact ⟨rfl, bb b0 (bb b1 y5)⟩

end Go.Proofs.YtibgpeaplmcogaaGreatDoor

namespace Go.Proofs.YtibgpeaplmcogaaGreatDoor
set_option maxRecDepth 100000
open Go.RowKit Go.Maps
set_option linter.unusedVariables false
set_option linter.unusedSimpArgs false

theorem exSt_any (Is : List Rat) (l l' : List PI) : exSt Is [] l = exSt Is [] l' := by
  funext i x v
  exact exSt_local Is l l' i i x x v v rfl rfl (fun _ => rfl) (fun _ => rfl) (fun _ => rfl)
theorem ev_err {Is fs : List Rat} {l l' : List PI} : ∀ {n : Nat} {i : Nat} {e : Int}, evTo (exSt Is fs l) l' n = .error (i, e) → e ≠ 0 := by
  intro n
  induction n with
  | zero => intro i e h; cases h
  | succ n ih =>
    intro i e h
    unfold evTo at h
    cases h1 : evTo (exSt Is fs l) l' n with
    | error e1 =>
      rw [h1] at h
      simp only at h
      obtain ⟨i1, e1⟩ := e1
      injection h with h
      injection h with h2 h3
      subst h2 h3
      exact ih h1
    | ok u =>
      rw [h1] at h
      simp only at h
      cases h2 : exSt Is fs l n (l'.getD n PI.nil) u with
      | ok x => rw [h2] at h; cases h
      | error e2 =>
        rw [h2] at h
        injection h with h
        injection h with h3 h4
        subst h4
        unfold exSt big at h2
        split at h2
        · rename_i e3 h5
          have h6 := raw_err h5
          injection h2 with h2
          omega
        · split at h2
          · injection h2 with h2; omega
          · cases h2
theorem allSz_of {Is : List Rat} {l l' : List PI} {n : Nat} {v : List Rat} (h : evTo (exSt Is [] l) l' n = .ok v) : AllSz 64 v := by
  intro X hX
  obtain ⟨j, hj⟩ := List.mem_iff_getElem?.1 hX
  have hj2 : j < v.length := by
    rcases Nat.lt_or_ge j v.length with h9 | h9
    · exact h9
    · rw [List.getElem?_eq_none h9] at hj; cases hj
  have h8 := (evTo_ok (d := 0) h j (by rw [← evTo_len h]; exact hj2)).2
  have e7 : v.getD j 0 = X := by rw [List.getD_eq_getElem?_getD, hj]; rfl
  rw [e7] at h8
  unfold exSt big at h8
  split at h8
  · cases h8
  · split at h8
    · cases h8
    · rename_i hnb
      have e8 : _ = X := Except.ok.inj h8
      rw [← e8]
      exact sz_of_bits hnb

set_option maxRecDepth 100000 in
set_option maxHeartbeats 8000000 in
theorem evalsTrims_walk {w : World} {A B C : Option Addr} {n c m d k f : Nat} {xs : List RI} {is : List RQ} {outs : List Int} (h : SlP w A n c xs) (hi : SlR w B m d is) (ho : SlZ w C k f outs) (hF : Fac w) :
    Calls Tryz.prog 8 #[.slice A n c, .slice B m d, .slice C k f] w (RetBl true w) := by
  obtain ⟨b, hb, FW⟩ := law_few h hi (slr_nil w)
  have SM := fun (w1 : World) (hb9 : Below w.heap.size w w1) => same16 w1 (hF.below hb9)
  have HFW := Lib.hid FW
  have HSM := Lib.hid SM
  clear FW SM
  by_cases hbad : b = false ∨ 30 < k
  · clear hb
    have hc : b = false ∨ (b = true ∧ 30 < k) := by
      cases b
      · exact .inl rfl
      · rcases hbad with h9 | h9
        · cases h9
        · exact .inr ⟨rfl, h9⟩
    clear hbad h hi ho
    rcases hc with rfl | ⟨rfl, h1⟩
    all_goals
      go_enter Tryz.func8, Tryz.ntmps8
      go_wp2_with fail
      with_reducible refine HFW.out.mono ?_
      rintro _ w1 ⟨rfl, b1⟩
      go_wp2_with fail
      with_reducible refine (HSM.out _ b1).mono ?_
      rintro _ w2 ⟨rfl, b2⟩
      go_wp2_with fail
      go_ret
      exact ⟨rfl, bb b1 b2⟩
  have hbt : b = true := by
    cases b
    · exact absurd (.inl rfl) hbad
    · rfl
  have hk30 : k ≤ 30 := Nat.le_of_not_lt fun e => hbad (.inr e)
  subst hbt
  obtain ⟨m1, m2, m3, m4, m5, m6⟩ := hb.1 rfl
  clear hb hbad m4 m6
  unfold manyB at m1
  rw [Bool.or_eq_false_iff] at m1
  have hs : Shrt 64 xs := fun x hx => ⟨Nat.le_trans (anyI_short m1.1 x hx).1 (by omega), Nat.le_trans (anyI_short m1.1 x hx).2 (by omega)⟩
  have hsi : ∀ x ∈ is, x.n ≤ 64 ∧ x.n' ≤ 64 := fun x hx => by have := anyR_short (k := 3) m5 x hx; omega
  have P1 := fun (w1 : World) (hb9 : Below w.heap.size w w1) => ref_right15 (h.below hb9) hs (by omega) (by omega)
  have P2 := fun (w1 : World) (hb9 : Below w.heap.size w w1) => ref_rats (hi.below hb9) hsi (by omega) (by omega)
  have hpi := progB_iff (xs.map RI.pi)
  have E1 := fun (w1 : World) (hb9 : Below w.heap.size w w1) => ev_exact (h.below hb9) hs (hi.below hb9) hsi (slr_nil w1) (by simp) (by omega) (by omega) (by omega)
  have hlen : (xs.map RI.pi).length = n := by rw [List.length_map]; exact h.1.1
  have hol : outs.length = k := ho.1.1
  have hexy := fun hh => @exAll_yes (xs.map RI.pi) (qvs is) (qvs []) hh
  have TR := fun hp (w1 : World) (hb9 : Below w.heap.size w w1) => line_Trim (h.below hb9) hs (by omega) (ho.below hb9) (by omega) (by omega) hp
  have E2 := fun (w1 : World) (hb9 : Below w.heap.size w w1) (A1 : Option Addr) (n1 c1 : Nat) (ys : List RI) (hy : SlP w1 A1 n1 c1 ys) (hys : Shrt 64 ys) (hn1 : n1 ≤ 300) => ev_exact hy hys (hi.below hb9) hsi (slr_nil w1) (by simp) hn1 (by omega) (by omega)
  generalize progB (xs.map RI.pi) = p at *
  generalize allR is = p2 at *
  have HP1 := Lib.hid P1
  have HP2 := Lib.hid P2
  clear P1 P2 m1 m5
  cases p
  case false =>
    clear E1 E2 TR hexy hpi h hi ho hs hsi hlen hol
    go_enter Tryz.func8, Tryz.ntmps8
    go_wp2_with fail
    with_reducible refine HFW.out.mono ?_
    rintro _ w1 ⟨rfl, b1⟩
    go_wp2_with fail
    with_reducible refine (HP1.out _ b1).mono ?_
    rintro _ w2 ⟨rfl, b2⟩
    go_wp2_with fail
    with_reducible refine (HSM.out _ (bb b1 b2)).mono ?_
    rintro _ w3 ⟨rfl, b3⟩
    go_wp2_with fail
    go_ret
    exact ⟨rfl, bb b1 (bb b2 b3)⟩
  case true =>
  cases p2
  case false =>
    clear E1 E2 TR hexy hpi h hi ho hs hsi hlen hol
    go_enter Tryz.func8, Tryz.ntmps8
    go_wp2_with fail
    with_reducible refine HFW.out.mono ?_
    rintro _ w1 ⟨rfl, b1⟩
    go_wp2_with fail
    with_reducible refine (HP1.out _ b1).mono ?_
    rintro _ w2 ⟨rfl, b2⟩
    go_wp2_with fail
    with_reducible refine (HP2.out _ (bb b1 b2)).mono ?_
    rintro _ w3 ⟨rfl, b3⟩
    go_wp2_with fail
    with_reducible refine (HSM.out _ (bb b1 (bb b2 b3))).mono ?_
    rintro _ w4 ⟨rfl, b4⟩
    go_wp2_with fail
    go_ret
    exact ⟨rfl, bb b1 (bb b2 (bb b3 b4))⟩
  case true =>
  have hprog := hpi.1 rfl
  have e0 : allR [] = true := rfl
  simp only [e0, hexy rfl, hlen] at E1
  have eq0 : qvs [] = [] := rfl
  rw [eq0] at E1
  obtain ⟨R, hR⟩ : ∃ R, evTo (exSt (qvs is) [] (xs.map RI.pi)) (xs.map RI.pi) n = R := ⟨_, rfl⟩
  simp only [hR] at E1
  have HE1 := Lib.hid E1
  have HTR := Lib.hid (TR hprog)
  have HE2 := Lib.hid E2
  have HHO := Lib.hid ho
  clear E1 TR E2 hexy hpi h hi ho
  cases R with
  | error e =>
    obtain ⟨i, e⟩ := e
    have he := ev_err hR
    have he2 : (e == 0) = false := by simpa using he
    clear hR hprog hlen hol hs hsi HE2 HTR
    go_enter Tryz.func8, Tryz.ntmps8
    go_wp2_with fail
    with_reducible refine HFW.out.mono ?_
    rintro _ w1 ⟨rfl, b1⟩
    go_wp2_with fail
    with_reducible refine (HP1.out _ b1).mono ?_
    rintro _ w2 ⟨rfl, b2⟩
    go_wp2_with fail
    with_reducible refine (HP2.out _ (bb b1 b2)).mono ?_
    rintro _ w3 ⟨rfl, b3⟩
    have y3 := bb b1 (bb b2 b3)
    go_wp2_with fail
    with_reducible refine (HE1.out _ y3).mono ?_
    rintro _ w4 ⟨rfl, b4⟩
    go_wp2_with fail
    with_reducible refine (HSM.out _ (bb y3 b4)).mono ?_
    rintro _ w5 ⟨rfl, b5⟩
    go_wp2_with fail
    go_ret
    exact ⟨rfl, bb (bb y3 b4) b5⟩
  | ok v =>
    have hzv := allSz_of hR
    have hvl : v.length = n := evTo_len hR
    have HR := Lib.hid hR
    have HZV := Lib.hid hzv
    have HVL := Lib.hid hvl
    have HPR := Lib.hid hprog
    have HL := Lib.hid hlen
    have HOL := Lib.hid hol
    have HHS := Lib.hid hs
    clear hR hzv hvl hprog hlen hol hs hsi
    go_enter Tryz.func8, Tryz.ntmps8
    go_wp2_with fail
    with_reducible refine HFW.out.mono ?_
    rintro _ w1 ⟨rfl, b1⟩
    go_wp2_with fail
    with_reducible refine (HP1.out _ b1).mono ?_
    rintro _ w2 ⟨rfl, b2⟩
    go_wp2_with fail
    with_reducible refine (HP2.out _ (bb b1 b2)).mono ?_
    rintro _ w3 ⟨rfl, b3⟩
    have y3 := bb b1 (bb b2 b3)
    clear b1 b2 b3 HP1 HP2 HFW
    go_wp2_with fail
    with_reducible refine (HE1.out _ y3).mono ?_
    rintro _ w4 ⟨⟨A4, n4, c4, rfl, q4⟩, b4⟩
    have e4 : n4 = n := by rw [q4.len]; exact HVL.out
    subst e4
    have y4 := bb y3 b4
    have HQ4 := Lib.hid q4
    clear q4 HE1
    go_wp2_with fail
    with_reducible refine (HTR.out _ y4).mono ?_
    rintro _ w5 ⟨mk, hnd, A5, n5, c5, ys, A6, n6, c6, rfl, p5, ht5, s5, z6, b5⟩
    have y5 := bb y4 b5
    have hn5 : n5 = (trimL (xs.map RI.pi) mk).length := by rw [← ht5, List.length_map]; exact p5.1.1.symm
    have hn5' : n5 ≤ 300 := by rw [hn5, trimL_len]; have := cnt_le mk (xs.map RI.pi).length; have := HL.out; omega
    have hn6 : n6 = k := by
      have h9 := z6.1.1
      unfold trimO at h9
      rw [List.length_map, HOL.out] at h9
      exact h9.symm
    subst hn6
    have X2 := HE2.out _ y5 A5 n5 c5 ys p5 s5 hn5'
    rw [ht5] at X2
    have htp := trim_prog HPR.out hnd
    have hev : evTo (exSt (qvs is) [] (trimL (xs.map RI.pi) mk)) (trimL (xs.map RI.pi) mk) (trimL (xs.map RI.pi) mk).length = .ok (trimTo (fun i => v.getD i 0) mk (xs.map RI.pi).length) := by
      rw [exSt_any (qvs is) (trimL (xs.map RI.pi) mk) (xs.map RI.pi)]
      exact trim_values (d := (0 : Rat)) (exSt_local (qvs is) (xs.map RI.pi) (xs.map RI.pi)) (prog_ahead HPR.out) hnd (by rw [HL.out]; exact HR.out)
    rw [e0, exAll_yes ((progB_iff _).2 htp), eq0, hev] at X2
    have hzu : AllSz 64 (trimTo (fun i => v.getD i 0) mk (xs.map RI.pi).length) := allSz_of hev
    have hval := fun (o : Int) (ho : o ∈ outs) (h1 : 0 ≤ o) (h2 : o < (xs.map RI.pi).length) => trim_value_at (d := (0 : Rat)) (l := xs.map RI.pi) hnd v ho h1 h2
    have hul : (trimTo (fun i => v.getD i 0) mk (xs.map RI.pi).length).length = n5 := by rw [trimTo_len, hn5, trimL_len]
    rw [HL.out] at hval hzu hul X2
    generalize trimTo (fun i => v.getD i 0) mk n4 = u at *
    have HX2 := Lib.hid X2
    have HVAL := Lib.hid hval
    have HZU := Lib.hid hzu
    have HUL := Lib.hid hul
    have HZ6 := Lib.hid z6
    clear X2 hval hzu hul z6 htp hev hn5 p5 ht5 s5 hnd HE2 HTR HR
    go_wp2_with fail
    with_reducible refine HX2.out.mono ?_
    rintro _ w7 ⟨⟨A7, n7, c7, rfl, q7⟩, b7⟩
    have e7 : n7 = n5 := by rw [q7.len]; exact HUL.out
    subst e7
    have y7 := bb y5 b7
    have HQ7 := Lib.hid q7
    have HO := Lib.hid HOL.out
    clear q7 HX2
    go_wp2_with fail
    go_loopw [89] (fun iv wr => ∃ j : Nat, j ≤ n6 ∧ iv = .int .i64 j ∧ Below w.heap.size w wr ∧ Hid (Below w7.heap.size w7 wr)) (fun iv _ => n6 - mes iv)
    case atStart => exact ⟨0, by omega, rfl, y7, Lib.hid (Below.refl _ _)⟩
    case round =>
      obtain ⟨j, hj, rfl, hb, HB7⟩ := hrel
      by_cases hj2 : j < n6
      · obtain ⟨b0, o0, o, rfl, hlt0, hok, hoi, c0⟩ := (HHO.out.below hb).at_ hj2
        have hmem := mem_at hok
        by_cases hin : 0 ≤ o ∧ o < (n4 : Int)
        · obtain ⟨g1, g2⟩ := hin
          have hv9 := HVAL.out o hmem g1 g2
          obtain ⟨t, rfl⟩ : ∃ t : Nat, o = (t : Int) := ⟨o.toNat, by omega⟩
          obtain ⟨b6, o6, a9, e6, hlt6, hok6, hoi6, cc6⟩ := (HZ6.out.below (bb b7 HB7.out)).at_ hj2
          have ha9 : a9 = newAt n4 mk (t : Int) := by
            unfold trimO at hok6
            rw [List.getElem?_map, hok, HL.out] at hok6
            simpa using hok6.symm
          rw [← ha9] at hv9
          obtain ⟨v1, v2, v3⟩ := hv9
          rw [HUL.out] at v2
          obtain ⟨t2, rfl⟩ : ∃ t2 : Nat, a9 = (t2 : Int) := ⟨a9.toNat, by omega⟩
          rw [show ((t2 : Int)).toNat = t2 by omega, show ((t : Int)).toNat = t by omega] at v3
          have ht : t < n4 := by omega
          have ht2 : t2 < n7 := by omega
          obtain ⟨b1, o1, sa, A1, n1, c1, A2, n2, c2, e1, hb1, k0, k1, k2, qa⟩ := (HQ4.out.below (bb b5 (bb b7 HB7.out))).at_ ht
          obtain ⟨b2, o2, sb, A5', n5', c5', A6', n6', c6', e2, hb2, j0, j1, j2, qb⟩ := (HQ7.out.below HB7.out).at_ ht2
          subst e6 e1 e2
          have SMQ := fun (w1 : World) (hb9 : Below wr.heap.size wr w1) => ref_sameT (qa.below hb9) (qb.below hb9) (HZV.out.at_ (by have := HVL.out; omega)) (HZU.out.at_ (by have := HUL.out; omega)) (by omega) v3.symm
          have hS : ∀ w', Below wr.heap.size wr w' → (w'.cell? ⟨b0, o0 + j, none⟩ = some (.int .i64 (t : Int)) ∧ w'.cell? ⟨b6, o6 + j, none⟩ = some (.int .i64 (t2 : Int))) ∧ (w'.cell? ⟨b1, o1 + t * 3, none⟩ = some (.bool sa) ∧ w'.cell? ⟨b1, o1 + t * 3 + 1, none⟩ = some (.slice A1 n1 c1) ∧ w'.cell? ⟨b1, o1 + t * 3 + 2, none⟩ = some (.slice A2 n2 c2)) ∧ (w'.cell? ⟨b2, o2 + t2 * 3, none⟩ = some (.bool sb) ∧ w'.cell? ⟨b2, o2 + t2 * 3 + 1, none⟩ = some (.slice A5' n5' c5') ∧ w'.cell? ⟨b2, o2 + t2 * 3 + 2, none⟩ = some (.slice A6' n6' c6')) := fun w' hb9 =>
            ⟨⟨(hb9.cell (p := ⟨b0, o0 + j, none⟩) hlt0).trans c0, (hb9.cell (p := ⟨b6, o6 + j, none⟩) hlt6).trans cc6⟩,
             ⟨(hb9.cell (p := ⟨b1, o1 + t * 3, none⟩) hb1).trans k0, (hb9.cell (p := ⟨b1, o1 + t * 3 + 1, none⟩) hb1).trans k1, (hb9.cell (p := ⟨b1, o1 + t * 3 + 2, none⟩) hb1).trans k2⟩,
             (hb9.cell (p := ⟨b2, o2 + t2 * 3, none⟩) hb2).trans j0, (hb9.cell (p := ⟨b2, o2 + t2 * 3 + 1, none⟩) hb2).trans j1, (hb9.cell (p := ⟨b2, o2 + t2 * 3 + 2, none⟩) hb2).trans j2⟩
          have f1 : decide (n7 ≤ t2) = false := decide_eq_false (by omega)
          have f2 : decide ((n7 : Int) ≤ (t2 : Int)) = false := decide_eq_false (by omega)
          have f3 : decide ((t2 : Int) < 0) = false := decide_eq_false (by omega)
          have HSM9 := Lib.hid SMQ
          have HS := Lib.hid hS
          clear SMQ hS qa qb ha9 hok hok6 hoi hoi6 hmem v1 v2 v3 g1 g2
          go_wp2_with fail
          go_region_held3 (fun w' => (w'.cell? ⟨b0, o0 + j, none⟩ = some (.int .i64 (t : Int)) ∧ w'.cell? ⟨b6, o6 + j, none⟩ = some (.int .i64 (t2 : Int))) ∧ (w'.cell? ⟨b1, o1 + t * 3, none⟩ = some (.bool sa) ∧ w'.cell? ⟨b1, o1 + t * 3 + 1, none⟩ = some (.slice A1 n1 c1) ∧ w'.cell? ⟨b1, o1 + t * 3 + 2, none⟩ = some (.slice A2 n2 c2)) ∧ (w'.cell? ⟨b2, o2 + t2 * 3, none⟩ = some (.bool sb) ∧ w'.cell? ⟨b2, o2 + t2 * 3 + 1, none⟩ = some (.slice A5' n5' c5') ∧ w'.cell? ⟨b2, o2 + t2 * 3 + 2, none⟩ = some (.slice A6' n6' c6'))) (first | with_reducible exact HS.out _ (Below.refl _ wr).drew | with_reducible exact HS.out _ x2 | fail)
            (first
              | (go_at_call 42; (with_reducible refine (HSM9.out _ ?hb1).mono ?_); (case hb1 => exact (Below.refl _ wr).drew); rintro _ w9 ⟨rfl, b9⟩; have x2 : Below wr.heap.size wr w9 := Below.undrew b9))
          all_goals
            go_wp2_with fail
            go_roundw
            case rel => exact ⟨j + 1, by omega, by go_num, bb hb x2, Lib.hid (bb HB7.out x2)⟩
            case measure => simp [mes, intOf]; omega
        · have hout : o < 0 ∨ (0 ≤ o ∧ (n4 : Int) ≤ o) := by omega
          rcases hout with hout | ⟨hout, hout2⟩
          all_goals
            go_wp2_with fail
            go_roundw
            case rel => exact ⟨j + 1, by omega, by go_num, hb, HB7⟩
            case measure => simp [mes, intOf]; omega
      · obtain rfl : j = n6 := by omega
        go_wp2_with fail
        with_reducible refine (HSM.out _ hb).mono ?_
        rintro _ w9 ⟨rfl, b9⟩
        go_wp2_with fail
        go_ret
        exact ⟨rfl, bb hb b9⟩

end Go.Proofs.YtibgpeaplmcogaaGreatDoor

namespace Go.Proofs.YtibgpeaplmcogaaGreatDoor
set_option maxRecDepth 100000
open Go.RowKit
set_option linter.unusedVariables false
set_option linter.unusedSimpArgs false
set_option maxRecDepth 100000

theorem fac16t {W : World} (h : laidMetH Tryz.prog Rows.evalsTrimsRow.laid W) : Fac W := by
  rw [MakeChecks.laidMetH_plain _ _ _ (by kernel_rfl)] at h
  obtain ⟨ps, ⟨g, t, cs, fuel, p, q, hg, ht, hv, hd, _, _⟩, _, _⟩ := h
  obtain rfl : g = 1 := Option.some.inj (hg.symm.trans (show Tryz.prog.globalNamed ((Rows.evalsTrimsRow.laid.map Prod.fst).headD Rows.evalsTrimsRow.spec) = some 1 by kernel_rfl))
  obtain rfl := Option.some.inj ((show (Tryz.prog.globals[1]?).map (·.type) = some 165 by kernel_rfl).symm.trans ht)
  obtain ⟨xs, m, _, ex, _, hl, hel⟩ := DataW.trod_array Tryz.underlying165 hd
  have c5 : Tryz.prog.cellsOf 3 = 1 := by kernel_rfl
  have hcell : ∀ r, r < 14 → W.cell? ⟨1, r, none⟩ = some (.int .i64 (facL.getD r 0)) := by
    intro r hr
    have hE := hel r hr
    rw [c5, Nat.mul_one, List.getElem?_eq_getElem (by omega)] at hE
    obtain ⟨z, e1, e2, _⟩ := DataW.trod_int Tryz.underlying3 hE
    have hlen : facL.length = 14 := rfl
    have e3 : (xs.map (·.1)) = facL.map fun n => (DataW.lit (.int .i64 n) : DataW Unit) := (DataW.agg.inj (Prod.mk.inj ex).1).symm
    have e4 : (xs.map (·.1))[r]? = (facL.map fun n => (DataW.lit (.int .i64 n) : DataW Unit))[r]? := by rw [e3]
    rw [List.getElem?_map, List.getElem?_map, List.getElem?_eq_getElem (by omega : r < xs.length), List.getElem?_eq_getElem (by omega : r < facL.length), e2] at e4
    have hz : z = facL.getD r 0 := by
      simp only [Option.map_some, Option.some.injEq, DataW.lit.injEq, Lit.int.injEq, true_and] at e4
      rw [e4, List.getD, List.getElem?_eq_getElem (by omega : r < facL.length)]; rfl
    rw [World.var?_cell hg hv r, ← hz]
    have : cs.toList[r]? = some (.int .i64 z) := by
      have h0 : ((cs.toList.drop r).take 1)[0]? = some (.int .i64 z) := by rw [e1]; rfl
      simpa using h0
    simpa using this
  refine ⟨?_, hcell⟩
  have h1 := hcell 0 (by omega)
  rcases Nat.lt_or_ge 1 W.heap.size with h0 | h0
  · exact h0
  · exfalso
    have : W.heap[1]? = none := Array.getElem?_eq_none h0
    unfold World.cell? at h1
    simp [this] at h1

theorem evalsTrims_row (a0 : Option Addr) (len0 cap0 : Nat) (z0 : List RI) (a1 : Option Addr) (len1 cap1 : Nat) (z1 : List RQ) (a2 : Option Addr) (len2 cap2 : Nat) (z2 : List Int) (w : World) (w0 : SlP w a0 len0 cap0 z0) (w1 : SlR w a1 len1 cap1 z1) (w2 : SlZ w a2 len2 cap2 z2) (hF : Fac w) :
    Calls Tryz.prog 8 #[.slice a0 len0 cap0, .slice a1 len1 cap1, .slice a2 len2 cap2] w (RetBl true w) := evalsTrims_walk w0 w1 w2 hF

end Go.Proofs.YtibgpeaplmcogaaGreatDoor
