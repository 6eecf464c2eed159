/-
  gradinelaw16.same returns true. Condition: the variable factorials holds the factorials of 0 to 13.
-/
import Derived.Test.YtibgpeaplmcogaaGreatDoorRfKn2AllE
import Derived.Test.YtibgpeaplmcogaaGreatDoorEvBAllE
import Derived.Test.YtibgpeaplmcogaaGreatDoorProg
import Derived.Test.YtibgpeaplmcogaaGreatDoorLnMemAllE
import Derived.KernelRfl
import Derived.Test.YtibgpeaplmcogaaGreatDoorEvFAllE
namespace Go.Proofs.YtibgpeaplmcogaaGreatDoor
set_option maxRecDepth 100000
open Go.RowKit
set_option linter.unusedVariables false
set_option linter.unusedSimpArgs false

/-- the doubles, or the number of the instruction and the error -/
def RetFl (r : Except (Nat × Int) (List Nat)) (w : World) (e : Ending) (w' : World) : Prop := match r with
  | .ok v => (∃ A n c, e = .returned (.tuple #[.slice A n c, .int .i64 0, .int .i64 0]) ∧ Sl w' A n c (nts v)) ∧ Below w.heap.size w w'
  | .error (i, k) => e = .returned (.tuple #[.slice none 0 0, .int .i64 (i : Int), .int .i64 k]) ∧ Below w.heap.size w w'
noncomputable def flAll (l : List PI) (ins : List Nat) : Except (Nat × Int) (List Nat) := if progB l = true then evTo (flSt ins) l l.length else .error (0, 1)
theorem flAll_no {l : List PI} {ins : List Nat} (h : progB l = false) : flAll l ins = .error (0, 1) := by unfold flAll; rw [h]; rfl
theorem flAll_yes {l : List PI} {ins : List Nat} (h : progB l = true) : flAll l ins = evTo (flSt ins) l l.length := by unfold flAll; rw [if_pos h]
theorem make_W (w : World) (n : Nat) (hn : n ≤ 1000000) : ∃ w1, (Instr.makeSlice 23 (.int .i64 0) (.int .i64 (n : Int))).run Tryz.prog w = .ok (.slice (some ⟨w.heap.size, 0, none⟩) 0 n) w1 ∧ Own 76 w.heap.size w1 (.slice (some ⟨w.heap.size, 0, none⟩) 0 n) [] ∧ Below w.heap.size w w1 := by
  obtain ⟨i, h1, h2, h3, h4⟩ := info_parts infoW
  have hb : (i.bytes : Int) * (n : Int) ≤ 281474976710656 := by rw [h4]; omega
  have hr := run_make (P := Tryz.prog) w 23 76 i _ Tryz.underlying23 h1 h2 .i64 .i64 0 n (by omega) (by omega) hb (by omega)
  simp only [Int.toNat_natCast, Int.toNat_zero, h3, Nat.mul_one] at hr
  exact ⟨_, hr, ⟨rfl, .inr ⟨w.heap.size, n, _, rfl, Nat.le_refl _, heap_alloc_new w _, Nat.zero_le _, by unfold maxLen; omega, by rw [size_madeCells, Nat.mul_one], by simp [vs]⟩⟩, below_alloc _ _⟩

set_option maxRecDepth 100000 in
set_option maxHeartbeats 4000000 in
theorem ev_float {w : World} {A B : Option Addr} {n c m d : Nat} {xs : List RI} {ins : List Nat} (h : SlP w A n c xs) (hs : Shrt 20 xs) (hi : Sl w B m d (nts ins)) (zi : AllW ins) (hn : n ≤ 300) (hm : m ≤ 1000) (hF : Fac w) :
    Calls Tryz.prog 38 #[.slice A n c, .slice B m d] w (RetFl (flAll (xs.map RI.pi) ins) w) := by
  have hlen : (xs.map RI.pi).length = n := by rw [List.length_map]; exact h.1.1
  have P1 := line_right h hs (by omega) (by omega)
  have hp := progB_iff (xs.map RI.pi)
  have hexy := fun hh => @flAll_yes (xs.map RI.pi) ins hh
  have hexn := fun hh => @flAll_no (xs.map RI.pi) ins hh
  have HP1 := Lib.hid P1
  clear P1
  generalize progB (xs.map RI.pi) = p at *
  cases p
  case false =>
    rw [hexn rfl]
    clear hexn hexy hp
    go_enter Tryz.func38, Tryz.ntmps38
    go_wp2_with fail
    with_reducible refine HP1.out.mono ?_
    rintro _ w1 ⟨rfl, b1⟩
    go_wp2_with fail
    go_ret3
    exact ⟨rfl, b1⟩
  case true =>
  rw [hexy rfl, hlen]
  have HL := Lib.hid hlen
  have hprog := hp.1 rfl
  clear hexn hexy hp hlen
  obtain ⟨R, hR⟩ : ∃ R, R = evTo (flSt ins) (xs.map RI.pi) n := ⟨_, rfl⟩
  rw [← hR]
  have HR := Lib.hid hR
  clear hR
  have hil := hi.len
  rw [nts_len] at hil
  obtain ⟨i0, hi0, hz0, hz1, hz2⟩ := info_parts infoW
  have HPR := Lib.hid hprog
  have HSH := Lib.hid hs
  have HI := Lib.hid hi
  have HIL := Lib.hid hil
  clear hprog hs hi hil
  go_enter Tryz.func38, Tryz.ntmps38
  go_wp2_with fail
  with_reducible refine HP1.out.mono ?_
  rintro _ w3 ⟨rfl, y3⟩
  clear HP1
  obtain ⟨w4, hmk, ho4, b4⟩ := make_W w3 n (by omega)
  have y4 : Below w.heap.size w w4 := bb y3 b4
  have HO : Hid (Own 76 w.heap.size w4 (.slice (some ⟨w3.heap.size, 0, none⟩) 0 n) (nts [])) := Lib.hid (ho4.mono y3.size)
  clear ho4
  go_wp2_with fail
  clear hmk
  go_loopw [7, 18] (fun vv iv wr => ∃ (j : Nat) (v : List Nat), j ≤ n ∧ iv = .int .i64 j ∧ Hid (Own 76 w.heap.size wr vv (nts v)) ∧ Hid (evTo (flSt ins) (xs.map RI.pi) j = .ok v) ∧ Hid (AllW v) ∧ Below w.heap.size w wr) (fun _ iv _ => n - mes iv)
  case atStart => exact ⟨0, [], by omega, rfl, HO, Lib.hid rfl, Lib.hid (fun X hX => by simp at hX), y4⟩
  case round =>
    clear HO y3 y4 b4
    obtain ⟨j, v, hj, rfl, HV, HE, HZ, hb⟩ := hrel
    have hvl : v.length = j := evTo_len HE.out
    obtain ⟨A', c', ev⟩ := own_form HV.out
    rw [nts_len, hvl] at ev
    subst ev
    have HVL := Lib.hid hvl
    clear hvl
    by_cases hj2 : j < n
    · obtain ⟨b0, off, x, rfl, hlt, hxk, hok, c0, c1, c2, c3, c4, c5⟩ := (h.below hb).at_ hj2
      have hp := pi_at hxk
      have hfit : fits vq nq x.pi j := by rw [← hp]; exact HPR.out.1 j (by rw [HL.out]; exact hj2)
      obtain ⟨hx1, hx2⟩ := HSH.out x (mem_at hxk)
      have hend : x.op = 1 ∧ ¬ x.a.toNat < ins.length → R = .error (j, 11) := fun hh => by
        rw [HR.out]
        refine evTo_err (evTo_stop HE.out ?_) n (by omega)
        rw [hp]
        unfold flSt
        rw [if_pos (show x.pi.op = 1 ∧ ¬ x.pi.a.toNat < ins.length from hh)]
      have hnext : ¬ (x.op = 1 ∧ ¬ x.a.toNat < ins.length) → evTo (flSt ins) (xs.map RI.pi) (j + 1) = .ok (v ++ [flv ins x.pi v]) := fun hh => by
        refine evTo_step HE.out ?_
        rw [hp]
        unfold flSt
        rw [if_neg (show ¬ (x.pi.op = 1 ∧ ¬ x.pi.a.toNat < ins.length) from hh)]
      have hlt2 := flv_lt zi HZ.out x.pi
      obtain ⟨V, hW, Bx, hb1⟩ := box0 27 wr #[.int .i64 x.op, .int .i64 x.a, .int .i64 x.b, .bool x.q.s, .slice x.q.A x.q.n x.q.c, .slice x.q.A' x.q.n' x.q.c']
      have FV := fun hin => fl_value (ins := ins) (v := v) (RI.below hok hb1) ((HV.out.sl HZ.out.us).below hb1) (HI.out.below (bb hb hb1)) HZ.out zi (hF.below (bb hb hb1)) hx1 hx2 hfit hin
      have HW := Lib.hid hW
      clear hW Bx hok hx1 hx2
      clear hxk hp
      have hin0 := fun (h1 : x.op = 1) => (show 0 ≤ x.a from (fit_in (n := j) (a := x.a) (b := x.b) (q := (x.q.s, x.q.z, x.q.z')) (by
        have h3 : fits vq nq ⟨x.op, x.a, x.b, (x.q.s, x.q.z, x.q.z')⟩ j := hfit
        rw [h1] at h3; exact h3)).1)
      clear hfit
      obtain ⟨op, a, b, q⟩ := x
      simp only at c0 c1 c2 c3 c4 c5 FV HW hend hnext hin0
      by_cases h1 : op = 1
      · subst h1
        have ha0 := hin0 rfl
        obtain ⟨i, rfl⟩ : ∃ i : Nat, a = (i : Int) := ⟨a.toNat, by omega⟩
        clear hin0
        by_cases hi1 : i < m
        · have HK := Lib.hid (FV (fun _ => by have := HIL.out; omega))
          clear FV
          have HEV2 := Lib.hid (hnext (fun hh => hh.2 (by have := HIL.out; omega)))
          have HZ2 := Lib.hid (HZ.out.snoc hlt2)
          generalize flv ins (RI.pi ⟨1, (i : Int), b, q⟩) v = X at *
          clear hnext hend hlt2
          go_wp2_with fail
          rw [HW.out]
          with_reducible refine HK.out.mono ?_
          rintro _ w2 ⟨rfl, b2⟩
          have y2 : Below w.heap.size w w2 := bb hb (bb hb1 b2)
          clear HK
          have HO2 := Lib.hid (HV.out.below (bb hb1 b2))
          have hvs : (nts v).length = j := by rw [nts_len]; exact HVL.out
          have HVS := Lib.hid hvs
          clear hvs
          go_wp2_with (at_builtin; refine wpList_append_own _ rfl _ _ 23 rfl w.heap.size 76 i0 (.int .u64 0) 1 8 Tryz.underlying23 hi0 hz0 hz1 hz2 rfl (by decide) _ (nts v).length (vs (nts v)) rfl (HO2.out.out.alloc _) ⟨w2.heap.size, 0, none⟩ 1 1 [.int .u64 (X : Int)] rfl rfl ?c1 ?c2 ?c3 ?c4 ?c5 ?_)
          case c1 => exact cell_one_new _ _ _
          case c2 => intro u hu; simp at hu; subst hu; rfl
          case c3 => have := HVS.out; unfold maxLen; omega
          case c4 => have := HVS.out; omega
          case c5 => have := y2.size; simp; omega
          intro v' w4 hown hgrow _
          have hbn := own_below y2 HO2.out hgrow
          have HOQ : Hid (Own 76 w.heap.size w4 v' (nts (v ++ [X]))) := Lib.hid (by
            have h9 : Own 76 w.heap.size w4 v' (nts v ++ [(X : Int)]) := Own.snoc hown
            have e9 : nts (v ++ [X]) = nts v ++ [(X : Int)] := by unfold nts; simp
            rw [e9]; exact h9)
          clear hown hgrow
          go_wp2_with fail
          go_roundw
          case rel => exact ⟨j + 1, v ++ [X], by omega, by go_num, HOQ, HEV2, HZ2, hbn⟩
          case measure => simp [mes, intOf]; omega
        · have hRR := hend ⟨rfl, by have := HIL.out; omega⟩
          subst hRR
          clear FV hnext hend hlt2
          go_wp2_with fail
          go_ret3
          exact ⟨rfl, hb.alloc hb.size _⟩
      · have e1 : (op == 1) = false := by simpa using h1
        have HK := Lib.hid (FV (fun hh => absurd hh h1))
        clear FV hin0
        have HEV2 := Lib.hid (hnext (fun hh => h1 hh.1))
        have HZ2 := Lib.hid (HZ.out.snoc hlt2)
        generalize flv ins (RI.pi ⟨op, a, b, q⟩) v = X at *
        clear hnext hend hlt2
        go_wp2_with fail
        rw [HW.out]
        with_reducible refine HK.out.mono ?_
        rintro _ w2 ⟨rfl, b2⟩
        have y2 : Below w.heap.size w w2 := bb hb (bb hb1 b2)
        clear HK
        have HO2 := Lib.hid (HV.out.below (bb hb1 b2))
        have hvs : (nts v).length = j := by rw [nts_len]; exact HVL.out
        have HVS := Lib.hid hvs
        clear hvs
        go_wp2_with (at_builtin; refine wpList_append_own _ rfl _ _ 23 rfl w.heap.size 76 i0 (.int .u64 0) 1 8 Tryz.underlying23 hi0 hz0 hz1 hz2 rfl (by decide) _ (nts v).length (vs (nts v)) rfl (HO2.out.out.alloc _) ⟨w2.heap.size, 0, none⟩ 1 1 [.int .u64 (X : Int)] rfl rfl ?c1 ?c2 ?c3 ?c4 ?c5 ?_)
        case c1 => exact cell_one_new _ _ _
        case c2 => intro u hu; simp at hu; subst hu; rfl
        case c3 => have := HVS.out; unfold maxLen; omega
        case c4 => have := HVS.out; omega
        case c5 => have := y2.size; simp; omega
        intro v' w4 hown hgrow _
        have hbn := own_below y2 HO2.out hgrow
        have HOQ : Hid (Own 76 w.heap.size w4 v' (nts (v ++ [X]))) := Lib.hid (by
          have h9 : Own 76 w.heap.size w4 v' (nts v ++ [(X : Int)]) := Own.snoc hown
          have e9 : nts (v ++ [X]) = nts v ++ [(X : Int)] := by unfold nts; simp
          rw [e9]; exact h9)
        clear hown hgrow
        go_wp2_with fail
        go_roundw
        case rel => exact ⟨j + 1, v ++ [X], by omega, by go_num, HOQ, HEV2, HZ2, hbn⟩
        case measure => simp [mes, intOf]; omega
    · obtain rfl : j = n := by omega
      have hRR : R = .ok v := by rw [HR.out, HE.out]
      subst hRR
      go_wp2_with fail
      go_ret3
      exact ⟨⟨_, _, _, rfl, HV.out.sl HZ.out.us⟩, hb⟩

set_option maxRecDepth 100000 in
set_option maxHeartbeats 4000000 in
theorem ref_float {w : World} {A B : Option Addr} {n c m d : Nat} {xs : List RI} {ins : List Nat} (h : SlP w A n c xs) (hs : Shrt 20 xs) (hi : Sl w B m d (nts ins)) (zi : AllW ins) (hn : n ≤ 300) (hm : m ≤ 1000) :
    Calls Tryz.prog 39 #[.slice A n c, .slice B m d] w (RetFl (flAll (xs.map RI.pi) ins) w) := by
  have hlen : (xs.map RI.pi).length = n := by rw [List.length_map]; exact h.1.1
  have P1 := ref_right15 h hs (by omega) (by omega)
  have hp := progB_iff (xs.map RI.pi)
  have hexy := fun hh => @flAll_yes (xs.map RI.pi) ins hh
  have hexn := fun hh => @flAll_no (xs.map RI.pi) ins hh
  have HP1 := Lib.hid P1
  clear P1
  generalize progB (xs.map RI.pi) = p at *
  cases p
  case false =>
    rw [hexn rfl]
    clear hexn hexy hp
    go_enter Tryz.func39, Tryz.ntmps39
    go_wp2_with fail
    with_reducible refine HP1.out.mono ?_
    rintro _ w1 ⟨rfl, b1⟩
    go_wp2_with fail
    go_ret3
    exact ⟨rfl, b1⟩
  case true =>
  rw [hexy rfl, hlen]
  have HL := Lib.hid hlen
  have hprog := hp.1 rfl
  clear hexn hexy hp hlen
  obtain ⟨R, hR⟩ : ∃ R, R = evTo (flSt ins) (xs.map RI.pi) n := ⟨_, rfl⟩
  rw [← hR]
  have HR := Lib.hid hR
  clear hR
  have hil := hi.len
  rw [nts_len] at hil
  obtain ⟨i0, hi0, hz0, hz1, hz2⟩ := info_parts infoW
  have HPR := Lib.hid hprog
  have HSH := Lib.hid hs
  have HI := Lib.hid hi
  have HIL := Lib.hid hil
  clear hprog hs hi hil
  go_enter Tryz.func39, Tryz.ntmps39
  go_wp2_with fail
  with_reducible refine HP1.out.mono ?_
  rintro _ w3 ⟨rfl, y3⟩
  clear HP1
  go_wp2_with fail
  go_loopw [7, 16] (fun vv iv wr => ∃ (j : Nat) (v : List Nat), j ≤ n ∧ iv = .int .i64 j ∧ Hid (Own 76 w.heap.size wr vv (nts v)) ∧ Hid (evTo (flSt ins) (xs.map RI.pi) j = .ok v) ∧ Hid (AllW v) ∧ Below w.heap.size w wr) (fun _ iv _ => n - mes iv)
  case atStart => exact ⟨0, [], by omega, rfl, Lib.hid (Own.nil _ _ _), Lib.hid rfl, Lib.hid (fun X hX => by simp at hX), y3⟩
  case round =>
    clear y3
    obtain ⟨j, v, hj, rfl, HV, HE, HZ, hb⟩ := hrel
    have hvl : v.length = j := evTo_len HE.out
    obtain ⟨A', c', ev⟩ := own_form HV.out
    rw [nts_len, hvl] at ev
    subst ev
    have HVL := Lib.hid hvl
    clear hvl
    by_cases hj2 : j < n
    · obtain ⟨b0, off, x, rfl, hlt, hxk, hok, c0, c1, c2, c3, c4, c5⟩ := (h.below hb).at_ hj2
      have hp := pi_at hxk
      have hfit : fits vq nq x.pi j := by rw [← hp]; exact HPR.out.1 j (by rw [HL.out]; exact hj2)
      obtain ⟨hx1, hx2⟩ := HSH.out x (mem_at hxk)
      have hend : x.op = 1 ∧ ¬ x.a.toNat < ins.length → R = .error (j, 11) := fun hh => by
        rw [HR.out]
        refine evTo_err (evTo_stop HE.out ?_) n (by omega)
        rw [hp]
        unfold flSt
        rw [if_pos (show x.pi.op = 1 ∧ ¬ x.pi.a.toNat < ins.length from hh)]
      have hnext : ¬ (x.op = 1 ∧ ¬ x.a.toNat < ins.length) → evTo (flSt ins) (xs.map RI.pi) (j + 1) = .ok (v ++ [flv ins x.pi v]) := fun hh => by
        refine evTo_step HE.out ?_
        rw [hp]
        unfold flSt
        rw [if_neg (show ¬ (x.pi.op = 1 ∧ ¬ x.pi.a.toNat < ins.length) from hh)]
      have hlt2 := flv_lt zi HZ.out x.pi

      clear hxk hp
      have hfit2 : fits vq nq ⟨x.op, x.a, x.b, (x.q.s, x.q.z, x.q.z')⟩ j := hfit
      have hqv : x.op = 2 → ∃ X, qval (x.q.s, x.q.z, x.q.z') = X ∧ Q wr x.q.s x.q.A x.q.n x.q.c x.q.A' x.q.n' x.q.c' X ∧ Sz X 20 := fun h2 => by
        have h3 := hfit2
        rw [h2] at h3
        obtain ⟨Y, g1, g2, g3⟩ := right_Q hok.2.2.2.1 hok.2.2.2.2.1 hx1 hx2 (fit_const h3)
        exact ⟨Y, g3.symm, g1, g2⟩
      have DB := fun h1 h2 (w1 : World) => ref_double (ins := ins) (v := v) hfit h1 h2 HZ.out w1
      clear hok hx1 hx2 hfit
      obtain ⟨op, a, b, q⟩ := x
      simp only at c0 c1 c2 c3 c4 c5 DB hend hnext hfit2 hqv
      by_cases h1 : op = 1
      · subst h1
        obtain ⟨g1, g2⟩ := fit_in hfit2
        obtain ⟨i, rfl⟩ : ∃ i : Nat, a = (i : Int) := ⟨a.toNat, by omega⟩
        clear DB hqv hfit2 g1 g2
        by_cases hi1 : i < m
        · obtain ⟨bi, oi, rfl, hbi, hci⟩ := (HI.out.below hb).2 (show 0 < m by omega)
          have k1 := hci i hi1
          rw [nts_at] at k1
          have hz := zi.at_ i
          have HEV2 := Lib.hid (hnext (fun hh => hh.2 (by have := HIL.out; omega)))
          have HZ2 := Lib.hid (HZ.out.snoc hlt2)
          have hX : flv ins (RI.pi ⟨1, (i : Int), b, q⟩) v = cln (ins.getD i 0) := by
            show flv ins ⟨1, (i : Int), b, (q.s, q.z, q.z')⟩ v = _
            rw [flv_1, show ((i : Int)).toNat = i by omega]
          rw [hX] at HEV2 HZ2
          clear hci hnext hend hlt2 hX
          generalize ins.getD i 0 = y at *
          have HK := fun (w1 : World) => Lib.hid (rf_clean hz w1)
          generalize cln y = X at *
          have hbi2 : bi < wr.heap.size + 1 := by omega
          go_wp2_with fail
          with_reducible refine (HK _).out.mono ?_
          rintro _ w2 ⟨rfl, rfl⟩
          have y2 := hb.alloc hb.size (.cells #[.int .i64 1, .int .i64 (i : Int), .int .i64 b, .bool q.s, .slice q.A q.n q.c, .slice q.A' q.n' q.c'] 27)
          obtain ⟨V, hW, Bx, hb1⟩ := box0 27 wr #[.int .i64 1, .int .i64 (i : Int), .int .i64 b, .bool q.s, .slice q.A q.n q.c, .slice q.A' q.n' q.c']
          rw [hW] at y2
          rw [hW]
          clear HK Bx
          have HO2 := Lib.hid (HV.out.below hb1)
          have hvs : (nts v).length = j := by rw [nts_len]; exact HVL.out
          have HVS := Lib.hid hvs
          clear hvs
          go_wp2_with (at_builtin; refine wpList_append_own _ rfl _ _ 23 rfl w.heap.size 76 i0 (.int .u64 0) 1 8 Tryz.underlying23 hi0 hz0 hz1 hz2 rfl (by decide) _ (nts v).length (vs (nts v)) rfl (HO2.out.out.alloc _) ⟨V.heap.size, 0, none⟩ 1 1 [.int .u64 (X : Int)] rfl rfl ?c1 ?c2 ?c3 ?c4 ?c5 ?_)
          case c1 => exact cell_one_new _ _ _
          case c2 => intro u hu; simp at hu; subst hu; rfl
          case c3 => have := HVS.out; unfold maxLen; omega
          case c4 => have := HVS.out; omega
          case c5 => have := y2.size; simp; omega
          intro v' w4 hown hgrow _
          have hbn := own_below y2 HO2.out hgrow
          have HOQ : Hid (Own 76 w.heap.size w4 v' (nts (v ++ [X]))) := Lib.hid (by
            have h9 : Own 76 w.heap.size w4 v' (nts v ++ [(X : Int)]) := Own.snoc hown
            have e9 : nts (v ++ [X]) = nts v ++ [(X : Int)] := by unfold nts; simp
            rw [e9]; exact h9)
          clear hown hgrow
          go_wp2_with fail
          go_roundw
          case rel => exact ⟨j + 1, v ++ [X], by omega, by go_num, HOQ, HEV2, HZ2, hbn⟩
          case measure => simp [mes, intOf]; omega
        · have hRR := hend ⟨rfl, by have := HIL.out; omega⟩
          subst hRR
          clear hnext hend hlt2
          go_wp2_with fail
          go_ret3
          exact ⟨rfl, hb.alloc hb.size _⟩
      · have e1 : (op == 1) = false := by simpa using h1
        by_cases h2 : op = 2
        · subst h2
          obtain ⟨Y, g1, g2, g3⟩ := hqv rfl
          have HEV2 := Lib.hid (hnext (fun hh => h1 hh.1))
          have HZ2 := Lib.hid (HZ.out.snoc hlt2)
          have hX : flv ins (RI.pi ⟨2, a, b, q⟩) v = fromQ Y := by
            show flv ins ⟨2, a, b, (q.s, q.z, q.z')⟩ v = _
            rw [flv_2, g1]
          rw [hX] at HEV2 HZ2
          obtain ⟨V, hW, Bx, hb1⟩ := box0 27 wr #[.int .i64 2, .int .i64 a, .int .i64 b, .bool q.s, .slice q.A q.n q.c, .slice q.A' q.n' q.c']
          have HK := Lib.hid (rf_from (g2.below hb1) g3)
          generalize fromQ Y = X at *
          have HW := Lib.hid hW
          clear hnext hend hlt2 hX hW Bx DB hqv hfit2 g1 g2 g3
          go_wp2_with fail
          rw [HW.out]
          with_reducible refine HK.out.mono ?_
          rintro _ w2 ⟨rfl, b2⟩
          have y2 : Below w.heap.size w w2 := bb hb (bb hb1 b2)
          clear HK
          have HO2 := Lib.hid (HV.out.below (bb hb1 b2))
          have hvs : (nts v).length = j := by rw [nts_len]; exact HVL.out
          have HVS := Lib.hid hvs
          clear hvs
          go_wp2_with (at_builtin; refine wpList_append_own _ rfl _ _ 23 rfl w.heap.size 76 i0 (.int .u64 0) 1 8 Tryz.underlying23 hi0 hz0 hz1 hz2 rfl (by decide) _ (nts v).length (vs (nts v)) rfl (HO2.out.out.alloc _) ⟨w2.heap.size, 0, none⟩ 1 1 [.int .u64 (X : Int)] rfl rfl ?c1 ?c2 ?c3 ?c4 ?c5 ?_)
          case c1 => exact cell_one_new _ _ _
          case c2 => intro u hu; simp at hu; subst hu; rfl
          case c3 => have := HVS.out; unfold maxLen; omega
          case c4 => have := HVS.out; omega
          case c5 => have := y2.size; simp; omega
          intro v' w4 hown hgrow _
          have hbn := own_below y2 HO2.out hgrow
          have HOQ : Hid (Own 76 w.heap.size w4 v' (nts (v ++ [X]))) := Lib.hid (by
            have h9 : Own 76 w.heap.size w4 v' (nts v ++ [(X : Int)]) := Own.snoc hown
            have e9 : nts (v ++ [X]) = nts v ++ [(X : Int)] := by unfold nts; simp
            rw [e9]; exact h9)
          clear hown hgrow
          go_wp2_with fail
          go_roundw
          case rel => exact ⟨j + 1, v ++ [X], by omega, by go_num, HOQ, HEV2, HZ2, hbn⟩
          case measure => simp [mes, intOf]; omega
        · have e2 : (op == 2) = false := by simpa using h2
          have hab : (0 ≤ a ∧ a < j) ∧ (0 ≤ b ∧ b < j) := by
            rcases ar_op h2 h1 with h9 | h9 | h9
            · obtain ⟨g1, g2⟩ := fit_one h2 h1 h9 hfit2
              have hb9 : b = 0 := by
                unfold fits at hfit2
                simp only at hfit2
                rw [if_neg h2, if_neg h1, if_pos h9] at hfit2
                exact hfit2.2.2.2
              omega
            · obtain ⟨g1, g2, g3, g4⟩ := fit_two h2 h1 h9 hfit2
              omega
            · exact (fit_no h2 h1 h9 hfit2).elim
          obtain ⟨⟨g1, g2⟩, g3, g4⟩ := hab
          obtain ⟨i, rfl⟩ : ∃ i : Nat, a = (i : Int) := ⟨a.toNat, by omega⟩
          obtain ⟨l, rfl⟩ : ∃ l : Nat, b = (l : Int) := ⟨b.toNat, by omega⟩
          have DK := fun (w1 : World) => DB h1 h2 w1
          have HEV2 := Lib.hid (hnext (fun hh => h1 hh.1))
          have HZ2 := Lib.hid (HZ.out.snoc hlt2)
          have e7 : (RI.pi ⟨op, (i : Int), (l : Int), q⟩).a.toNat = i := by show ((i : Int)).toNat = i; omega
          have e8 : (RI.pi ⟨op, (i : Int), (l : Int), q⟩).b.toNat = l := by show ((l : Int)).toNat = l; omega
          rw [e7, e8] at DK
          have e9 : (RI.pi ⟨op, (i : Int), (l : Int), q⟩).op = op := rfl
          rw [e9] at DK
          obtain ⟨V, hW, Bx, hb1⟩ := box0 27 wr #[.int .i64 op, .int .i64 (i : Int), .int .i64 (l : Int), .bool q.s, .slice q.A q.n q.c, .slice q.A' q.n' q.c']
          have hsl := HV.out.sl HZ.out.us
          obtain ⟨b1, o1, rfl, hlt1, hc1⟩ := hsl.2 (show 0 < j by omega)
          have k1 := hc1 i (by omega)
          have k2 := hc1 l (by omega)
          rw [nts_at] at k1 k2
          generalize flv ins (RI.pi ⟨op, (i : Int), (l : Int), q⟩) v = X at *
          generalize v.getD i 0 = Y at *
          generalize v.getD l 0 = Z at *
          have hS : ∀ w', Below V.heap.size V w' → (w'.cell? ⟨wr.heap.size, 0, none⟩ = some (.int .i64 op) ∧ w'.cell? ⟨wr.heap.size, 1, none⟩ = some (.int .i64 (i : Int)) ∧ w'.cell? ⟨wr.heap.size, 2, none⟩ = some (.int .i64 (l : Int))) ∧ w'.cell? ⟨b1, o1 + i, none⟩ = some (.int .u64 (Y : Int)) ∧ w'.cell? ⟨b1, o1 + l, none⟩ = some (.int .u64 (Z : Int)) := fun w' hb9 =>
            ⟨⟨(Bx.below' hb9).six.1.1, (Bx.below' hb9).six.1.2.1, (Bx.below' hb9).six.1.2.2.1⟩, ((bb hb1 hb9).cell (p := ⟨b1, o1 + i, none⟩) hlt1).trans k1, ((bb hb1 hb9).cell (p := ⟨b1, o1 + l, none⟩) hlt1).trans k2⟩
          have HK := Lib.hid DK
          have HW := Lib.hid hW
          have HS := Lib.hid hS
          clear hnext hend hlt2 hW Bx DB DK hqv hfit2 hsl hc1 hS k1 k2 e7 e8 e9
          go_wp2_with fail
          rw [HW.out]
          obtain ⟨⟨p0, p1, p2⟩, p3, p4⟩ := HS.out _ (Below.refl _ V)
          go_region_held3 (fun w' => (w'.cell? ⟨wr.heap.size, 0, none⟩ = some (.int .i64 op) ∧ w'.cell? ⟨wr.heap.size, 1, none⟩ = some (.int .i64 (i : Int)) ∧ w'.cell? ⟨wr.heap.size, 2, none⟩ = some (.int .i64 (l : Int))) ∧ w'.cell? ⟨b1, o1 + i, none⟩ = some (.int .u64 (Y : Int)) ∧ w'.cell? ⟨b1, o1 + l, none⟩ = some (.int .u64 (Z : Int))) (first | exact HS.out _ (Below.refl _ V).drew | exact HS.out _ x2 | fail)
            (first
              | (go_at_call 65; (with_reducible refine (HK.out _).mono ?_); rintro _ w2 ⟨rfl, b2⟩; have x2 : Below V.heap.size V w2 := Below.undrew b2))
          all_goals
            have y2 : Below w.heap.size w w2 := bb hb (bb hb1 x2)
            clear HK
            have HO2 := Lib.hid (HV.out.below (bb hb1 x2))
            have hvs : (nts v).length = j := by rw [nts_len]; exact HVL.out
            have HVS := Lib.hid hvs
            clear hvs
            go_wp2_with (at_builtin; refine wpList_append_own _ rfl _ _ 23 rfl w.heap.size 76 i0 (.int .u64 0) 1 8 Tryz.underlying23 hi0 hz0 hz1 hz2 rfl (by decide) _ (nts v).length (vs (nts v)) rfl (HO2.out.out.alloc _) ⟨w2.heap.size, 0, none⟩ 1 1 [.int .u64 (X : Int)] rfl rfl ?c1 ?c2 ?c3 ?c4 ?c5 ?_)
            case c1 => exact cell_one_new _ _ _
            case c2 => intro u hu; simp at hu; subst hu; rfl
            case c3 => have := HVS.out; unfold maxLen; omega
            case c4 => have := HVS.out; omega
            case c5 => have := y2.size; simp; omega
            intro v' w4 hown hgrow _
            have hbn := own_below y2 HO2.out hgrow
            have HOQ : Hid (Own 76 w.heap.size w4 v' (nts (v ++ [X]))) := Lib.hid (by
              have h9 : Own 76 w.heap.size w4 v' (nts v ++ [(X : Int)]) := Own.snoc hown
              have e9 : nts (v ++ [X]) = nts v ++ [(X : Int)] := by unfold nts; simp
              rw [e9]; exact h9)
            clear hown hgrow
            go_wp2_with fail
            go_roundw
            case rel => exact ⟨j + 1, v ++ [X], by omega, by go_num, HOQ, HEV2, HZ2, hbn⟩
            case measure => simp [mes, intOf]; omega
    · obtain rfl : j = n := by omega
      have hRR : R = .ok v := by rw [HR.out, HE.out]
      subst hRR
      go_wp2_with fail
      go_ret3
      exact ⟨⟨_, _, _, rfl, HV.out.sl HZ.out.us⟩, hb⟩

end Go.Proofs.YtibgpeaplmcogaaGreatDoor

namespace Go.Proofs.YtibgpeaplmcogaaGreatDoor
set_option maxRecDepth 100000
open Go.RowKit Go.WideShapes Go.ChangeShapes
set_option linter.unusedVariables false

theorem rat_ty : RatTy Tryz.prog 25 :=
  ⟨⟨_, _, _, Tryz.underlying25, rfl, rfl, rfl, by kernel_rfl, by kernel_rfl, by kernel_rfl, Tryz.underlying4, _, _, Tryz.underlying23, Tryz.underlying23, Tryz.underlying76, Tryz.underlying76, by kernel_rfl, by kernel_rfl⟩, by kernel_rfl⟩
theorem ins_ty : InsTy Tryz.prog 27 :=
  ⟨⟨_, _, _, _, Tryz.underlying27, rfl, rfl, rfl, rfl, by kernel_rfl, by kernel_rfl, by kernel_rfl, Tryz.underlying3, Tryz.underlying3, Tryz.underlying3, rat_ty⟩, by kernel_rfl⟩
section
variable {H : Type} {enc : TypeId × Value → H} {w : World} {base b0 : Nat} {held : Bool} {r : Reach} {v : Value} {d : DataW H} {p : List MemPlace}
theorem arg_rats (hv : Value.okWide Tryz.prog w r b0 47 v) (h : DataW.Trod enc Tryz.prog w base (fun _ => true) held 47 v d p) : ∃ A n c xs, v = .slice A n c ∧ SlR w A n c xs := by
  obtain ⟨A, n, c, rfl⟩ := okWide_slice Tryz.underlying47 hv
  obtain ⟨fuel, hf⟩ := h
  exact open_slr Tryz.underlying47 rat_ty (by simpa [Value.cells] using hf)
theorem arg_inss (hv : Value.okWide Tryz.prog w r b0 22 v) (h : DataW.Trod enc Tryz.prog w base (fun _ => true) held 22 v d p) : ∃ A n c xs, v = .slice A n c ∧ SlP w A n c xs := by
  obtain ⟨A, n, c, rfl⟩ := okWide_slice Tryz.underlying22 hv
  obtain ⟨fuel, hf⟩ := h
  exact open_slp Tryz.underlying22 ins_ty (by simpa [Value.cells] using hf)
theorem arg_ints (hv : Value.okWide Tryz.prog w r b0 38 v) (h : DataW.Trod enc Tryz.prog w base (fun _ => true) held 38 v d p) : ∃ A n c xs, v = .slice A n c ∧ SlZ w A n c xs := by
  obtain ⟨A, n, c, rfl⟩ := okWide_slice Tryz.underlying38 hv
  obtain ⟨fuel, hf⟩ := h
  exact open_slz Tryz.underlying38 Tryz.underlying3 (by kernel_rfl) (by simpa [Value.cells] using hf)
theorem arg_words (hv : Value.okWide Tryz.prog w r b0 23 v) (h : DataW.Trod enc Tryz.prog w base (fun _ => true) held 23 v d p) : ∃ A n c z, v = .slice A n c ∧ Sl w A n c z ∧ n ≤ maxLen := by
  obtain ⟨A, n, c, rfl⟩ := okWide_slice Tryz.underlying23 hv
  obtain ⟨fuel, hf⟩ := h
  exact open_sl Tryz.underlying23 Tryz.underlying76 (by kernel_rfl) (by simpa [Value.cells] using hf)
theorem arg_rat (hv : Value.okWide Tryz.prog w r b0 25 v) (h : DataW.Trod enc Tryz.prog w base (fun _ => true) held 25 v d p) : ∃ q : RQ, v = .agg #[.bool q.s, .slice q.A q.n q.c, .slice q.A' q.n' q.c'] ∧ q.ok w := by
  obtain ⟨cs, rfl, hsz⟩ := okWide_struct Tryz.underlying25 hv
  obtain ⟨fuel, hf⟩ := h
  obtain ⟨q, e, ok⟩ := open_rq rat_ty (by simpa [Value.cells] using hf)
  obtain ⟨l⟩ := cs
  refine ⟨q, ?_, ok⟩
  have e2 : l = q.cells := by simpa using e
  rw [e2]
  rfl
theorem arg_ins (hv : Value.okWide Tryz.prog w r b0 27 v) (h : DataW.Trod enc Tryz.prog w base (fun _ => true) held 27 v d p) : ∃ q : RI, v = .agg #[.int .i64 q.op, .int .i64 q.a, .int .i64 q.b, .bool q.q.s, .slice q.q.A q.q.n q.q.c, .slice q.q.A' q.q.n' q.q.c'] ∧ q.ok w := by
  obtain ⟨cs, rfl, hsz⟩ := okWide_struct Tryz.underlying27 hv
  obtain ⟨fuel, hf⟩ := h
  obtain ⟨q, e, ok⟩ := open_ri ins_ty (by simpa [Value.cells] using hf)
  obtain ⟨l⟩ := cs
  refine ⟨q, ?_, ok⟩
  have e2 : l = q.cells := by simpa using e
  rw [e2]
  rfl
end

end Go.Proofs.YtibgpeaplmcogaaGreatDoor

namespace Go.Proofs.YtibgpeaplmcogaaGreatDoor
set_option maxRecDepth 100000
open Go.RowKit
set_option linter.unusedVariables false
set_option linter.unusedSimpArgs false

def longB (k : Int) (q : RQ) : Bool := decide (k < q.n ∨ k < q.n')
def anyI (xs : List RI) : Bool := xs.any fun x => longB 8 x.q
def anyR (k : Int) (xs : List RQ) : Bool := xs.any fun x => longB k x
def manyB (xs : List RI) : Bool := anyI xs || decide (300 < xs.length)
theorem anyI_yes {xs : List RI} {x : RI} (hx : x ∈ xs) (h : longB 8 x.q = true) : anyI xs = true := List.any_eq_true.2 ⟨x, hx, h⟩
theorem anyI_no {xs : List RI} (h : ∀ (i : Nat) (x : RI), xs[i]? = some x → longB 8 x.q = false) : anyI xs = false := by
  unfold anyI
  rw [Bool.eq_false_iff]
  intro hh
  obtain ⟨x, hx, h1⟩ := List.any_eq_true.1 hh
  obtain ⟨j, hj⟩ := List.mem_iff_getElem?.1 hx
  rw [h j x hj] at h1
  cases h1
theorem anyR_yes {k : Int} {xs : List RQ} {x : RQ} (hx : x ∈ xs) (h : longB k x = true) : anyR k xs = true := List.any_eq_true.2 ⟨x, hx, h⟩
theorem anyR_no {k : Int} {xs : List RQ} (h : ∀ (i : Nat) (x : RQ), xs[i]? = some x → longB k x = false) : anyR k xs = false := by
  unfold anyR
  rw [Bool.eq_false_iff]
  intro hh
  obtain ⟨x, hx, h1⟩ := List.any_eq_true.1 hh
  obtain ⟨j, hj⟩ := List.mem_iff_getElem?.1 hx
  rw [h j x hj] at h1
  cases h1
theorem anyI_short {xs : List RI} (h : anyI xs = false) : Shrt 8 xs := by
  intro x hx
  have h1 : ¬ longB 8 x.q = true := fun hh => by rw [anyI_yes hx hh] at h; cases h
  unfold longB at h1
  rw [decide_eq_true_eq] at h1
  omega
theorem anyR_short {k : Nat} {xs : List RQ} (h : anyR k xs = false) : ∀ x ∈ xs, x.n ≤ k ∧ x.n' ≤ k := by
  intro x hx
  have h1 : ¬ longB k x = true := fun hh => by rw [anyR_yes hx hh] at h; cases h
  unfold longB at h1
  rw [decide_eq_true_eq] at h1
  omega

set_option maxHeartbeats 2000000 in
theorem law_many {w : World} {A : Option Addr} {n c : Nat} {xs : List RI} (h : SlP w A n c xs) :
    Calls Tryz.prog 9 #[.slice A n c] w (RetBl (manyB xs) w) := by
  have hlen : xs.length = n := h.1.1
  have hmx : n ≤ 9223372036854775807 := by have h1 := h.1.2.1; have h2 := h.1.2.2.1; unfold maxLen at h2; omega
  have HL := Lib.hid hlen
  clear hlen
  go_enter Tryz.func9, Tryz.ntmps9
  go_wp2_with fail
  go_loopw [6] (fun iv wr => ∃ j : Nat, j ≤ n ∧ iv = .int .i64 j ∧ Below w.heap.size w wr ∧ Hid (∀ (i : Nat) x, i < j → xs[i]? = some x → longB 8 x.q = false)) (fun iv _ => n - mes iv)
  case atStart => exact ⟨0, by omega, rfl, Below.refl _ _, Lib.hid (fun i x hi => absurd hi (by omega))⟩
  case round =>
    obtain ⟨j, hj, rfl, hb, HF⟩ := hrel
    by_cases hj2 : j < n
    · obtain ⟨b0, off, x, rfl, hlt, hxk, hok, c0, c1, c2, c3, c4, c5⟩ := (h.below hb).at_ hj2
      have LG := plain_long (w := wr) (s := x.q.s) (A := x.q.A) (A' := x.q.A') (n := x.q.n) (n' := x.q.n') (c := x.q.c) (c' := x.q.c') 8
      obtain ⟨r, hr⟩ : ∃ r, longB 8 x.q = r := ⟨_, rfl⟩
      have LG2 : Calls Tryz.prog 43 #[.agg #[.bool x.q.s, .slice x.q.A x.q.n x.q.c, .slice x.q.A' x.q.n' x.q.c'], .int .i64 8] wr (RetBl (longB 8 x.q) wr) := LG
      rw [hr] at LG2
      have HK := Lib.hid LG2
      have HR := Lib.hid hr
      clear LG LG2 hok hr
      cases r
      case true =>
        have hyes := anyI_yes (mem_at hxk) HR.out
        clear HF hxk
        go_wp2_with fail
        with_reducible refine HK.out.mono ?_
        rintro _ w2 ⟨rfl, b2⟩
        go_wp2_with fail
        go_ret
        exact ⟨by unfold manyB; rw [hyes]; rfl, bb hb b2⟩
      case false =>
        go_wp2_with fail
        with_reducible refine HK.out.mono ?_
        rintro _ w2 ⟨rfl, b2⟩
        go_wp2_with fail
        go_roundw
        case rel => exact ⟨j + 1, by omega, by go_num, bb hb b2, Lib.hid (fun i y hi hy => by
          rcases Nat.lt_or_eq_of_le (Nat.le_of_lt_succ hi) with h9 | h9
          · exact HF.out i y h9 hy
          · rw [h9, hxk] at hy; cases hy; exact HR.out)⟩
        case measure => simp [mes, intOf]; omega
    · obtain rfl : j = n := by omega
      have hno := anyI_no (xs := xs) (fun i x hx => HF.out i x (by
        have := HL.out
        rcases Nat.lt_or_ge i xs.length with h9 | h9
        · omega
        · rw [List.getElem?_eq_none h9] at hx; cases hx) hx)
      have hm : manyB xs = decide (300 < j) := by unfold manyB; rw [hno, Bool.false_or, HL.out]
      rcases Nat.lt_or_ge 300 j with h9 | h9
      · rw [decide_eq_true h9] at hm
        go_wp2_with fail
        go_ret
        exact ⟨by rw [hm]; simp; omega, hb⟩
      · rw [decide_eq_false (by omega)] at hm
        go_wp2_with fail
        go_ret
        exact ⟨by rw [hm]; simp; omega, hb⟩

set_option maxHeartbeats 2000000 in
theorem plain_longer {w : World} {A : Option Addr} {n c : Nat} {xs : List RQ} (h : SlR w A n c xs) (k : Int) :
    Calls Tryz.prog 56 #[.slice A n c, .int .i64 k] w (RetBl (anyR k xs) w) := by
  have hlen : xs.length = n := h.1.1
  have hmx : n ≤ 9223372036854775807 := by have h1 := h.1.2.1; have h2 := h.1.2.2.1; unfold maxLen at h2; omega
  have HL := Lib.hid hlen
  clear hlen
  go_enter Tryz.func56, Tryz.ntmps56
  go_wp2_with fail
  go_loopw [8] (fun iv wr => ∃ j : Nat, j ≤ n ∧ iv = .int .i64 j ∧ Below w.heap.size w wr ∧ Hid (∀ (i : Nat) x, i < j → xs[i]? = some x → longB k x = false)) (fun iv _ => n - mes iv)
  case atStart => exact ⟨0, by omega, rfl, Below.refl _ _, Lib.hid (fun i x hi => absurd hi (by omega))⟩
  case round =>
    obtain ⟨j, hj, rfl, hb, HF⟩ := hrel
    by_cases hj2 : j < n
    · obtain ⟨b0, off, x, rfl, hlt, hxk, hok, c0, c1, c2⟩ := (h.below hb).at_ hj2
      have LG := plain_long (w := wr) (s := x.s) (A := x.A) (A' := x.A') (n := x.n) (n' := x.n') (c := x.c) (c' := x.c') k
      obtain ⟨r, hr⟩ : ∃ r, longB k x = r := ⟨_, rfl⟩
      have LG2 : Calls Tryz.prog 43 #[.agg #[.bool x.s, .slice x.A x.n x.c, .slice x.A' x.n' x.c'], .int .i64 k] wr (RetBl (longB k x) wr) := LG
      rw [hr] at LG2
      have HK := Lib.hid LG2
      have HR := Lib.hid hr
      clear LG LG2 hok hr
      cases r
      case true =>
        have hyes := anyR_yes (mem_at hxk) HR.out
        clear HF hxk
        go_wp2_with fail
        with_reducible refine HK.out.mono ?_
        rintro _ w2 ⟨rfl, b2⟩
        go_wp2_with fail
        go_ret
        exact ⟨by rw [hyes]; rfl, bb hb b2⟩
      case false =>
        go_wp2_with fail
        with_reducible refine HK.out.mono ?_
        rintro _ w2 ⟨rfl, b2⟩
        go_wp2_with fail
        go_roundw
        case rel => exact ⟨j + 1, by omega, by go_num, bb hb b2, Lib.hid (fun i y hi hy => by
          rcases Nat.lt_or_eq_of_le (Nat.le_of_lt_succ hi) with h9 | h9
          · exact HF.out i y h9 hy
          · rw [h9, hxk] at hy; cases hy; exact HR.out)⟩
        case measure => simp [mes, intOf]; omega
    · obtain rfl : j = n := by omega
      have hno := anyR_no (xs := xs) (fun i x hx => HF.out i x (by
        have := HL.out
        rcases Nat.lt_or_ge i xs.length with h9 | h9
        · omega
        · rw [List.getElem?_eq_none h9] at hx; cases hx) hx)
      go_wp2_with fail
      go_ret
      exact ⟨by rw [hno]; rfl, hb⟩

def FewP (n m k : Nat) (xs : List RI) (is fs : List RQ) : Prop := manyB xs = false ∧ n ≤ 60 ∧ m ≤ 30 ∧ k ≤ 60 ∧ anyR 3 is = false ∧ anyR 3 fs = false
set_option maxRecDepth 100000 in
set_option maxHeartbeats 4000000 in
theorem law_few {w : World} {A B C : Option Addr} {n c m d k f : Nat} {xs : List RI} {is fs : List RQ} (h : SlP w A n c xs) (hi : SlR w B m d is) (hf : SlR w C k f fs) :
    ∃ b : Bool, (b = true ↔ FewP n m k xs is fs) ∧ Calls Tryz.prog 33 #[.slice A n c, .slice B m d, .slice C k f] w (RetBl b w) := by
  have M := Lib.hid (law_many h)
  have L1 := fun (w1 : World) (hb : Below w.heap.size w w1) => plain_longer (hi.below hb) 3
  have L2 := fun (w1 : World) (hb : Below w.heap.size w w1) => plain_longer (hf.below hb) 3
  have H1 := Lib.hid L1
  have H2 := Lib.hid L2
  clear L1 L2 h hi hf
  unfold FewP
  generalize manyB xs = p at *
  generalize anyR 3 is = q at *
  generalize anyR 3 fs = r at *
  cases p
  case true =>
    refine ⟨false, by simp, ?_⟩
    go_enter Tryz.func33, Tryz.ntmps33
    go_wp2_with fail
    with_reducible refine M.out.mono ?_
    rintro _ w1 ⟨rfl, b1⟩
    go_wp2_with fail
    go_ret
    exact ⟨rfl, b1⟩
  case false =>
  by_cases h1 : n ≤ 60
  case neg =>
    have e1 : decide ((n : Int) ≤ 60) = false := decide_eq_false (by omega)
    have e2 : decide (n ≤ 60) = false := decide_eq_false (by omega)
    refine ⟨false, by simp [h1], ?_⟩
    go_enter Tryz.func33, Tryz.ntmps33
    go_wp2_with fail
    with_reducible refine M.out.mono ?_
    rintro _ w1 ⟨rfl, b1⟩
    go_wp2_with fail
    go_ret
    exact ⟨rfl, b1⟩
  case pos =>
  by_cases h2 : m ≤ 30
  case neg =>
    have e1 : decide ((m : Int) ≤ 30) = false := decide_eq_false (by omega)
    have e2 : decide (m ≤ 30) = false := decide_eq_false (by omega)
    refine ⟨false, by simp [h2], ?_⟩
    go_enter Tryz.func33, Tryz.ntmps33
    go_wp2_with fail
    with_reducible refine M.out.mono ?_
    rintro _ w1 ⟨rfl, b1⟩
    go_wp2_with fail
    go_ret
    exact ⟨rfl, b1⟩
  case pos =>
  by_cases h3 : k ≤ 60
  case neg =>
    have e1 : decide ((k : Int) ≤ 60) = false := decide_eq_false (by omega)
    have e2 : decide (k ≤ 60) = false := decide_eq_false (by omega)
    refine ⟨false, by simp [h3], ?_⟩
    go_enter Tryz.func33, Tryz.ntmps33
    go_wp2_with fail
    with_reducible refine M.out.mono ?_
    rintro _ w1 ⟨rfl, b1⟩
    go_wp2_with fail
    go_ret
    exact ⟨rfl, b1⟩
  case pos =>
  cases q
  case true =>
    refine ⟨false, by simp, ?_⟩
    go_enter Tryz.func33, Tryz.ntmps33
    go_wp2_with fail
    with_reducible refine M.out.mono ?_
    rintro _ w1 ⟨rfl, b1⟩
    go_wp2_with fail
    with_reducible refine (H1.out _ b1).mono ?_
    rintro _ w2 ⟨rfl, b2⟩
    go_wp2_with fail
    go_ret
    exact ⟨rfl, bb b1 b2⟩
  case false =>
  cases r
  case true =>
    refine ⟨false, by simp, ?_⟩
    go_enter Tryz.func33, Tryz.ntmps33
    go_wp2_with fail
    with_reducible refine M.out.mono ?_
    rintro _ w1 ⟨rfl, b1⟩
    go_wp2_with fail
    with_reducible refine (H1.out _ b1).mono ?_
    rintro _ w2 ⟨rfl, b2⟩
    go_wp2_with fail
    with_reducible refine (H2.out _ (bb b1 b2)).mono ?_
    rintro _ w3 ⟨rfl, b3⟩
    go_wp2_with fail
    go_ret
    exact ⟨rfl, bb b1 (bb b2 b3)⟩
  case false =>
    refine ⟨true, by simp [h1, h2, h3], ?_⟩
    go_enter Tryz.func33, Tryz.ntmps33
    go_wp2_with fail
    with_reducible refine M.out.mono ?_
    rintro _ w1 ⟨rfl, b1⟩
    go_wp2_with fail
    with_reducible refine (H1.out _ b1).mono ?_
    rintro _ w2 ⟨rfl, b2⟩
    go_wp2_with fail
    with_reducible refine (H2.out _ (bb b1 b2)).mono ?_
    rintro _ w3 ⟨rfl, b3⟩
    go_wp2_with fail
    go_ret
    exact ⟨rfl, bb b1 (bb b2 b3)⟩

set_option maxRecDepth 100000 in
set_option maxHeartbeats 4000000 in
theorem ref_sameR {w : World} {A B : Option Addr} {n c d : Nat} {v : List Rat} (h : SlQ w A n c v) (k : SlQ w B n d v) (z : AllSz 64 v) (hn : n ≤ 65536) :
    Calls Tryz.prog 37 #[.slice A n c, .slice B n d] w (RetBl true w) := by
  have hlen := h.len
  have HL := Lib.hid hlen
  have HH := Lib.hid h
  have HK := Lib.hid k
  clear hlen h k
  go_enter Tryz.func37, Tryz.ntmps37
  go_wp2_with fail
  go_loopw [13] (fun iv wr => ∃ j : Nat, j ≤ n ∧ iv = .int .i64 j ∧ Below w.heap.size w wr) (fun iv _ => n - mes iv)
  case atStart => exact ⟨0, by omega, rfl, Below.refl _ _⟩
  case round =>
    obtain ⟨j, hj, rfl, hb⟩ := hrel
    by_cases hj2 : j < n
    · obtain ⟨b1, o1, sa, A1, n1, c1, A2, n2, c2, rfl, hb1, k0, k1, k2, qa⟩ := (HH.out.below hb).at_ hj2
      obtain ⟨b2, o2, sb, A5, n5, c5, A6, n6, c6, rfl, hb2, j0, j1, j2, qb⟩ := (HK.out.below hb).at_ hj2
      have SM := fun (w1 : World) (hb9 : Below wr.heap.size wr w1) => ref_sameT (qa.below hb9) (qb.below hb9) (z.at_ (by have := HL.out; omega)) (z.at_ (by have := HL.out; omega)) (by omega) rfl
      have hS : ∀ w', Below wr.heap.size wr w' → (w'.cell? ⟨b1, o1 + j * 3, none⟩ = some (.bool sa) ∧ w'.cell? ⟨b1, o1 + j * 3 + 1, none⟩ = some (.slice A1 n1 c1) ∧ w'.cell? ⟨b1, o1 + j * 3 + 2, none⟩ = some (.slice A2 n2 c2)) ∧ (w'.cell? ⟨b2, o2 + j * 3, none⟩ = some (.bool sb) ∧ w'.cell? ⟨b2, o2 + j * 3 + 1, none⟩ = some (.slice A5 n5 c5) ∧ w'.cell? ⟨b2, o2 + j * 3 + 2, none⟩ = some (.slice A6 n6 c6)) := fun w' hb9 =>
        ⟨⟨(hb9.cell (p := ⟨b1, o1 + j * 3, none⟩) hb1).trans k0, (hb9.cell (p := ⟨b1, o1 + j * 3 + 1, none⟩) hb1).trans k1, (hb9.cell (p := ⟨b1, o1 + j * 3 + 2, none⟩) hb1).trans k2⟩,
         (hb9.cell (p := ⟨b2, o2 + j * 3, none⟩) hb2).trans j0, (hb9.cell (p := ⟨b2, o2 + j * 3 + 1, none⟩) hb2).trans j1, (hb9.cell (p := ⟨b2, o2 + j * 3 + 2, none⟩) hb2).trans j2⟩
      have HSM := Lib.hid SM
      have HS := Lib.hid hS
      clear SM hS qa qb
      go_wp2_with fail
      go_region_held3 (fun w' => (w'.cell? ⟨b1, o1 + j * 3, none⟩ = some (.bool sa) ∧ w'.cell? ⟨b1, o1 + j * 3 + 1, none⟩ = some (.slice A1 n1 c1) ∧ w'.cell? ⟨b1, o1 + j * 3 + 2, none⟩ = some (.slice A2 n2 c2)) ∧ (w'.cell? ⟨b2, o2 + j * 3, none⟩ = some (.bool sb) ∧ w'.cell? ⟨b2, o2 + j * 3 + 1, none⟩ = some (.slice A5 n5 c5) ∧ w'.cell? ⟨b2, o2 + j * 3 + 2, none⟩ = some (.slice A6 n6 c6))) (first | exact HS.out _ (Below.refl _ wr).drew | exact HS.out _ x2 | fail)
        (first
          | (go_at_call 42; (with_reducible refine (HSM.out _ ?hb1).mono ?_); (case hb1 => exact (Below.refl _ wr).drew); rintro _ w2 ⟨rfl, b2'⟩; have x2 : Below wr.heap.size wr w2 := Below.undrew b2'))
      all_goals
        go_wp2_with fail
        go_roundw
        case rel => exact ⟨j + 1, by omega, by go_num, bb hb x2⟩
        case measure => simp [mes, intOf]; omega
    · obtain rfl : j = n := by omega
      go_wp2_with fail
      go_ret
      exact ⟨rfl, hb⟩

end Go.Proofs.YtibgpeaplmcogaaGreatDoor

namespace Go.Proofs.YtibgpeaplmcogaaGreatDoor
set_option maxRecDepth 100000
open Go.RowKit
set_option linter.unusedVariables false
set_option linter.unusedSimpArgs false

theorem SlC.new {k : Nat} {V : Type} {cells : V → List Value} {ok : World → V → Prop} (w : World) (arr : Array Value) (t : TypeId) (xs : List V) (hl : ∀ x ∈ xs, (cells x).length = k) (he : arr.toList = xs.flatMap cells) (hok : ∀ x ∈ xs, ok (w.alloc (.cells arr t)) x) (hn : xs.length ≤ maxLen) :
    SlC k cells ok (w.alloc (.cells arr t)) (some ⟨w.heap.size, 0, none⟩) xs.length xs.length xs := by
  refine ⟨⟨rfl, Nat.le_refl _, hn, fun x hx => ⟨hok x hx, hl x hx⟩⟩, fun h0 => ⟨w.heap.size, 0, rfl, by simp, fun j hj i hi => ?_⟩⟩
  rw [← flat_at xs hl j i hi, ← he, cell_of_row _ w.heap.size _ arr t (0, 0) (heap_alloc_new w _), Nat.zero_add]
  simp
theorem SlC.take {k : Nat} {V : Type} {cells : V → List Value} {ok : World → V → Prop} {w : World} {A : Option Addr} {n c m : Nat} {xs : List V} (h : SlC k cells ok w A n c xs) (hm : m ≤ n) : SlC k cells ok w A m c (xs.take m) := by
  refine ⟨⟨by rw [List.length_take, h.1.1]; omega, by have := h.1.2.1; omega, h.1.2.2.1, fun x hx => h.1.2.2.2 x (List.mem_of_mem_take hx)⟩, fun h0 => ?_⟩
  obtain ⟨b, off, e, hlt, hc⟩ := h.2 (by omega)
  refine ⟨b, off, e, hlt, fun j hj i hi => ?_⟩
  rw [hc j (by omega) i hi, List.getElem?_take, if_pos hj]
def ins0 (op : Int) : RI := ⟨op, 0, 0, ⟨false, none, 0, 0, [], none, 0, 0, []⟩⟩
theorem ins0_ok (w : World) {op : Int} (h : I64 op) : (ins0 op).ok w := ⟨h, by unfold I64; simp [ins0], by unfold I64; simp [ins0], Sl.nil _ _ _, Sl.nil _ _ _, by unfold maxLen; simp [ins0], by unfold maxLen; simp [ins0]⟩
theorem ins0_sh {l : List RI} (h : ∀ x ∈ l, ∃ op, x = ins0 op) {N : Nat} : Shrt N l := by
  intro x hx
  obtain ⟨op, rfl⟩ := h x hx
  exact ⟨Nat.zero_le _, Nat.zero_le _⟩
def L3 : List RI := [ins0 1, ins0 6, ins0 7]
def C3 : Array Value := #[.int .i64 1, .int .i64 0, .int .i64 0, .bool false, .slice none 0 0, .slice none 0 0, .int .i64 6, .int .i64 0, .int .i64 0, .bool false, .slice none 0 0, .slice none 0 0, .int .i64 7, .int .i64 0, .int .i64 0, .bool false, .slice none 0 0, .slice none 0 0]
theorem L3_new (w : World) : SlP (w.alloc (.cells C3 27)) (some ⟨w.heap.size, 0, none⟩) 3 3 L3 := by
  refine SlC.new w C3 27 L3 (fun x _ => rfl) rfl (fun x hx => ?_) (by unfold maxLen; simp [L3])
  unfold L3 at hx
  simp only [List.mem_cons, List.not_mem_nil, or_false] at hx
  rcases hx with rfl | rfl | rfl <;> exact ins0_ok _ (by unfold I64; omega)
theorem L3_sh (N : Nat) : Shrt N L3 := ins0_sh (fun x hx => by
  unfold L3 at hx
  simp only [List.mem_cons, List.not_mem_nil, or_false] at hx
  rcases hx with rfl | rfl | rfl <;> exact ⟨_, rfl⟩)
theorem L2_sh (N : Nat) : Shrt N (L3.take 2) := fun x hx => L3_sh N x (List.mem_of_mem_take hx)
theorem L3_prog : progB (L3.map RI.pi) = true := by
  refine (progB_iff _).2 ⟨fun i hi => ?_, by decide⟩
  have hi' : i < 3 := hi
  have h3 : i = 0 ∨ i = 1 ∨ i = 2 := by omega
  rcases h3 with rfl | rfl | rfl
  · show fits vq nq ⟨1, 0, 0, (false, [], [])⟩ 0
    simp [fits, nq]
  · show fits vq nq ⟨6, 0, 0, (false, [], [])⟩ 1
    simp [fits, nq, arity]
  · show fits vq nq ⟨7, 0, 0, (false, [], [])⟩ 2
    simp [fits, nq, arity]
theorem L2_prog : progB ((L3.take 2).map RI.pi) = true := by
  refine (progB_iff _).2 ⟨fun i hi => ?_, by decide⟩
  have hi' : i < 2 := hi
  have h3 : i = 0 ∨ i = 1 := by omega
  rcases h3 with rfl | rfl
  · show fits vq nq ⟨1, 0, 0, (false, [], [])⟩ 0
    simp [fits, nq]
  · show fits vq nq ⟨6, 0, 0, (false, [], [])⟩ 1
    simp [fits, nq, arity]
theorem ev_a : evTo (exSt [rq false (val [3]) (val [2])] [] ((L3.take 2).map RI.pi)) ((L3.take 2).map RI.pi) 2 = .ok [rq false 3 2, rq false 9 4] := by kernel_rfl
theorem ev_b : evTo (exSt [rq false (val []) (val [1])] [] (L3.map RI.pi)) (L3.map RI.pi) 3 = .error (2, 4) := by kernel_rfl
theorem ev_c : evTo (flSt [0]) (L3.map RI.pi) 3 = .ok [0, 0, 9221120237041090560] := by kernel_rfl

end Go.Proofs.YtibgpeaplmcogaaGreatDoor
