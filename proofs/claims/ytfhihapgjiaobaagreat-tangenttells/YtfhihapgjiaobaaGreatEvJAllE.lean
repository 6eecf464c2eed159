/-
  The law TangentTells returns true. Condition: the slices read as lists.
-/
import Derived.Test.YtfhihapgjiaobaaGreatTgKAllE
import Derived.Test.YtfhihapgjiaobaaGreatTgFAllE
import Derived.Lib.SmallJoins
namespace Go.Proofs.YtfhihapgjiaobaaGreat
set_option maxRecDepth 100000
open Go.RowKit
set_option linter.unusedVariables false
set_option linter.unusedSimpArgs false

theorem SlC.new {k : Nat} {V : Type} {cells : V → List Value} {ok : World → V → Prop} (w : World) (arr : Array Value) (t : TypeId) (xs : List V) (hl : ∀ x ∈ xs, (cells x).length = k) (he : arr.toList = xs.flatMap cells) (hok : ∀ x ∈ xs, ok (w.alloc (.cells arr t)) x) (hn : xs.length ≤ maxLen) :
    SlC k cells ok (w.alloc (.cells arr t)) (some ⟨w.heap.size, 0, none⟩) xs.length xs.length xs := by
  refine ⟨⟨rfl, Nat.le_refl _, hn, fun x hx => ⟨hok x hx, hl x hx⟩⟩, fun h0 => ⟨w.heap.size, 0, rfl, by simp, fun j hj i hi => ?_⟩⟩
  rw [← flat_at xs hl j i hi, ← he, cell_of_row _ w.heap.size _ arr t (0, 0) (heap_alloc_new w _), Nat.zero_add]
  simp
theorem SlC.take {k : Nat} {V : Type} {cells : V → List Value} {ok : World → V → Prop} {w : World} {A : Option Addr} {n c m : Nat} {xs : List V} (h : SlC k cells ok w A n c xs) (hm : m ≤ n) : SlC k cells ok w A m c (xs.take m) := by
  refine ⟨⟨by rw [List.length_take, h.1.1]; omega, by have := h.1.2.1; omega, h.1.2.2.1, fun x hx => h.1.2.2.2 x (List.mem_of_mem_take hx)⟩, fun h0 => ?_⟩
  obtain ⟨b, off, e, hlt, hc⟩ := h.2 (by omega)
  refine ⟨b, off, e, hlt, fun j hj i hi => ?_⟩
  rw [hc j (by omega) i hi, List.getElem?_take, if_pos hj]
def ins0 (op : Int) : RI := ⟨op, 0, 0, ⟨false, none, 0, 0, [], none, 0, 0, []⟩⟩
theorem ins0_ok (w : World) {op : Int} (h : I64 op) : (ins0 op).ok w := ⟨h, by unfold I64; simp [ins0], by unfold I64; simp [ins0], Sl.nil _ _ _, Sl.nil _ _ _, by unfold maxLen; simp [ins0], by unfold maxLen; simp [ins0]⟩
theorem ins0_sh {l : List RI} (h : ∀ x ∈ l, ∃ op, x = ins0 op) {N : Nat} : Shrt N l := by
  intro x hx
  obtain ⟨op, rfl⟩ := h x hx
  exact ⟨Nat.zero_le _, Nat.zero_le _⟩
def L3 : List RI := [ins0 1, ins0 6, ins0 7]
theorem L3_sh (N : Nat) : Shrt N L3 := ins0_sh (fun x hx => by
  unfold L3 at hx
  simp only [List.mem_cons, List.not_mem_nil, or_false] at hx
  rcases hx with rfl | rfl | rfl <;> exact ⟨_, rfl⟩)
theorem L2_sh (N : Nat) : Shrt N (L3.take 2) := fun x hx => L3_sh N x (List.mem_of_mem_take hx)
theorem L2_prog : progB ((L3.take 2).map RI.pi) = true := by
  refine (progB_iff _).2 ⟨fun i hi => ?_, by decide⟩
  have hi' : i < 2 := hi
  have h3 : i = 0 ∨ i = 1 := by omega
  rcases h3 with rfl | rfl
  · show fits vq nq ⟨1, 0, 0, (false, [], [])⟩ 0
    simp [fits, nq]
  · show fits vq nq ⟨6, 0, 0, (false, [], [])⟩ 1
    simp [fits, nq, arity]
end Go.Proofs.YtfhihapgjiaobaaGreat

namespace Go.Proofs.YtfhihapgjiaobaaGreat
set_option maxRecDepth 100000
open Go.RowKit
set_option linter.unusedVariables false
set_option linter.unusedSimpArgs false

theorem tans_errs {ds v : List Rat} {l : List PI} {n i : Nat} {e : Int} (h : evTo (tanSt ds v) l n = .error (i, e)) : i < n ∧ (e = 4 ∨ e = 5) := by
  obtain ⟨g1, t, g2⟩ := evTo_errs h
  refine ⟨g1, ?_⟩
  unfold tanSt at g2
  rcases big_errs g2 with h5 | h5
  · exact .inr h5
  · exact .inl (tanR_err h5)

set_option maxRecDepth 100000 in
set_option maxHeartbeats 4000000 in
theorem rf_of17 {w : World} {A B D C : Option Addr} {n c m d k e kf f : Nat} {xs : List RI} {is ds fs : List RQ} (h : SlP w A n c xs) (hs : Shrt 64 xs) (hi : SlR w B m d is) (his : ∀ x ∈ is, x.n ≤ 64 ∧ x.n' ≤ 64) (hd : SlR w D k e ds) (hds : ∀ x ∈ ds, x.n ≤ 64 ∧ x.n' ≤ 64) (hf : SlR w C kf f fs) (hfs : ∀ x ∈ fs, x.n ≤ 64 ∧ x.n' ≤ 64) (hn : n ≤ 300) (hm : m ≤ 1000) (hk : k ≤ 1000) (hkf : kf ≤ 1000) :
    Calls Tryz.prog 10 #[.slice A n c, .slice B m d, .slice D k e, .slice C kf f] w (RetTg (tgAll (xs.map RI.pi) (allR is) (allR fs) (allR ds) (decide (m = k)) (qvs is) (qvs ds) (qvs fs)) w) := by
  have hlen : (xs.map RI.pi).length = n := by rw [List.length_map]; exact h.1.1
  have P1 := ref_rats hd hds (by omega) (by omega)
  have P2 := fun (w1 : World) (hb : Below w.heap.size w w1) => ref_exact (h.below hb) hs (hi.below hb) his (hf.below hb) hfs hn hm hkf
  have hsd := fun hh => slq_of hd hds hh
  have hil : (qvs is).length = m := by unfold qvs; rw [List.length_map]; exact hi.1.1
  have hex := fun v => @exAll_ok (xs.map RI.pi) (allR is) (allR fs) (qvs is) (qvs fs) v
  have hxe := fun i e => @exAll_errs (xs.map RI.pi) (allR is) (allR fs) (qvs is) (qvs fs) i e
  have ht1 := fun hh => @tgAll_no (xs.map RI.pi) (allR is) (allR fs) (allR ds) (decide (m = k)) (qvs is) (qvs ds) (qvs fs) hh
  have ht2 := fun e => @tgAll_err (xs.map RI.pi) (allR is) (allR fs) (qvs is) (qvs ds) (qvs fs) e
  have ht3 := fun v => @tgAll_ok (xs.map RI.pi) (allR is) (allR fs) (qvs is) (qvs ds) (qvs fs) v
  have HP1 := Lib.hid P1
  have HP2 := Lib.hid P2
  clear P1 P2
  by_cases hmk : m = k
  case neg =>
    rw [ht1 (by simp [hmk])]
    clear ht1 ht2 ht3 hex hxe hsd hil
    have hmk2 : ¬ (m : Int) = (k : Int) := by omega
    go_enter Tryz.func10, Tryz.ntmps10
    go_wp2_with fail
    refine bodyPost_ret (v := .tuple #[.slice none 0 0, .slice none 0 0, .int .i64 0, .int .i64 1]) (by simp [results, Tryz.results10, go_sem]) rfl ?_
    exact ⟨rfl, Below.refl _ _⟩
  case pos =>
  subst hmk
  generalize qvs is = Is at *
  generalize qvs ds = Ds at *
  generalize qvs fs = Fs at *
  generalize allR ds = p2 at *
  cases p2
  case false =>
    rw [ht1 (by simp)]
    clear ht1 ht2 ht3 hex hxe hsd hil
    go_enter Tryz.func10, Tryz.ntmps10
    go_wp2_with fail
    with_reducible refine HP1.out.mono ?_
    rintro _ w1 ⟨rfl, b1⟩
    go_wp2_with fail
    refine bodyPost_ret (v := .tuple #[.slice none 0 0, .slice none 0 0, .int .i64 0, .int .i64 1]) (by simp [results, Tryz.results10, go_sem]) rfl ?_
    exact ⟨rfl, b1⟩
  case true =>
  rw [show decide (m = m) = true from by simp]
  obtain ⟨r, hr⟩ : ∃ r, exAll (xs.map RI.pi) (allR is) (allR fs) Is Fs = r := ⟨_, rfl⟩
  rw [hr] at HP2
  cases r with
  | error er =>
    obtain ⟨i, er⟩ := er
    rw [ht2 _ hr]
    obtain ⟨_, hee⟩ := hxe i er hr
    have he0 : ¬ er = 0 := by omega
    clear ht1 ht2 ht3 hex hxe hsd hil hr hee
    go_enter Tryz.func10, Tryz.ntmps10
    go_wp2_with fail
    with_reducible refine HP1.out.mono ?_
    rintro _ w1 ⟨rfl, b1⟩
    go_wp2_with fail
    with_reducible refine (HP2.out _ b1).mono ?_
    rintro _ w2 ⟨rfl, b2⟩
    go_wp2_with fail
    refine bodyPost_ret (v := .tuple #[.slice none 0 0, .slice none 0 0, .int .i64 (i : Int), .int .i64 er]) (by simp [results, Tryz.results10, go_sem]) rfl ?_
    exact ⟨rfl, bb b1 b2⟩
  | ok v =>
  rw [ht3 _ hr]
  obtain ⟨hpb, _, _, hev⟩ := hex v hr
  obtain ⟨qd, zd⟩ := hsd rfl
  have zv : AllSz 64 v := exact_sz hev
  have hprog := (progB_iff (xs.map RI.pi)).1 hpb
  have hvl : v.length = n := by rw [evTo_len hev, hlen]
  have hin : ∀ j, j < n → ((xs.map RI.pi).getD j PI.nil).op = 1 → ((xs.map RI.pi).getD j PI.nil).a.toNat < m := fun j hj h1 => by
    have := exact_in hev (i := j) (by rw [hlen]; exact hj) h1
    omega
  have RR := fun (w1 : World) (hb : Below w.heap.size w w1) (B : Option Addr) (d nv : Nat) (hnv : nv = n) (hq : SlQ w1 B nv d v) => rf_rules (h.below hb) hprog hq hnv zv (qd.below hb) zd hin hn hm
  obtain ⟨R, hR⟩ : ∃ R, evTo (tanSt Ds v) (xs.map RI.pi) n = R := ⟨_, rfl⟩
  simp only [hR] at RR
  have hr1 := fun t => @tgRun_ok (xs.map RI.pi) v Ds t
  have hr2 := fun e => @tgRun_err (xs.map RI.pi) v Ds e
  rw [hlen, hR] at hr1 hr2
  have hre := fun i e (hh : R = .error (i, e)) => tans_errs (hR.trans hh)
  have HRR := Lib.hid RR
  have HVL := Lib.hid hvl
  clear RR hR hin hprog zv hev hpb zd qd hr ht1 ht2 ht3 hex hxe hsd hil hvl hlen h hi hd hf
  cases R with
  | error er =>
    obtain ⟨i, er⟩ := er
    rw [hr2 _ rfl]
    obtain ⟨_, hee⟩ := hre i er rfl
    have he0 : ¬ er = 0 := by omega
    clear hr1 hr2 hre hee
    go_enter Tryz.func10, Tryz.ntmps10
    go_wp2_with fail
    with_reducible refine HP1.out.mono ?_
    rintro _ w1 ⟨rfl, b1⟩
    go_wp2_with fail
    with_reducible refine (HP2.out _ b1).mono ?_
    rintro _ w2 ⟨⟨Av, nv, cv, rfl, qv⟩, b2⟩
    have hnv : nv = n := by rw [qv.len]; exact HVL.out
    subst hnv
    have RRR := Lib.hid (HRR.out _ (bb b1 b2) _ _ _ rfl qv)
    clear qv HRR
    go_wp2_with fail
    with_reducible refine RRR.out.mono ?_
    rintro _ w3 ⟨rfl, b3⟩
    go_wp2_with fail
    refine bodyPost_ret (v := .tuple #[.slice none 0 0, .slice none 0 0, .int .i64 (i : Int), .int .i64 er]) (by simp [results, Tryz.results10, go_sem]) rfl ?_
    exact ⟨rfl, bb b1 (bb b2 b3)⟩
  | ok t =>
    rw [hr1 _ rfl]
    clear hr1 hr2 hre
    go_enter Tryz.func10, Tryz.ntmps10
    go_wp2_with fail
    with_reducible refine HP1.out.mono ?_
    rintro _ w1 ⟨rfl, b1⟩
    go_wp2_with fail
    with_reducible refine (HP2.out _ b1).mono ?_
    rintro _ w2 ⟨⟨Av, nv, cv, rfl, qv⟩, b2⟩
    have hnv : nv = n := by rw [qv.len]; exact HVL.out
    subst hnv
    have RRR := Lib.hid (HRR.out _ (bb b1 b2) _ _ _ rfl qv)
    have HQV := Lib.hid qv
    clear qv HRR
    go_wp2_with fail
    with_reducible refine RRR.out.mono ?_
    rintro _ w3 ⟨⟨At, nt, ct, rfl, qt⟩, b3⟩
    have HQT := Lib.hid qt
    clear qt
    go_wp2_with fail
    refine bodyPost_ret (v := .tuple #[.slice Av nv cv, .slice At nt ct, .int .i64 0, .int .i64 0]) (by simp [results, Tryz.results10, go_sem]) rfl ?_
    exact ⟨⟨_, _, _, _, _, _, rfl, HQV.out.below b3, HQT.out⟩, bb b1 (bb b2 b3)⟩

set_option maxRecDepth 100000 in
set_option maxHeartbeats 4000000 in
theorem law_three (w : World) : Calls Tryz.prog 24 #[] w (RetQ 3 w) := by
  obtain ⟨V, hW, Br, s1, s2, hb0⟩ := lits2 w #[.bool false, .slice (some ⟨w.heap.size + 1, 0, none⟩) 1 1, .slice (some ⟨w.heap.size + 1 + 1, 0, none⟩) 1 1] 3 1 (by unfold U; omega) U_1
  have q : Q V false (some ⟨w.heap.size + 1, 0, none⟩) 1 1 (some ⟨w.heap.size + 1 + 1, 0, none⟩) 1 1 3 := by
    refine ⟨by decide +kernel, ?_, ?_⟩
    · rw [show words (3 : Rat).num.natAbs = [3] by decide +kernel]; exact s1
    · rw [show words (3 : Rat).den = [1] by decide +kernel]; exact s2
  have HW := Lib.hid hW
  have HBr := Lib.hid Br
  have HQ := Lib.hid q
  clear hW Br q s1 s2
  obtain ⟨⟨r0, r1, r2⟩, f0, f1, f2⟩ := HBr.out.three
  go_enter Tryz.func24, Tryz.ntmps24
  go_wp2_with fail
  rw [HW.out]
  refine bodyPost_ret (v := .agg #[.bool false, .slice (some ⟨w.heap.size + 1, 0, none⟩) 1 1, .slice (some ⟨w.heap.size + 1 + 1, 0, none⟩) 1 1]) (by simp [results, Tryz.results24, go_sem, r0, r1, r2]) rfl ?_
  exact ⟨_, _, _, _, _, _, _, rfl, HQ.out, hb0⟩

end Go.Proofs.YtfhihapgjiaobaaGreat

namespace Go.Proofs.YtfhihapgjiaobaaGreat
set_option maxRecDepth 100000
open Go.RowKit
set_option linter.unusedVariables false
set_option linter.unusedSimpArgs false

def C2 : Array Value := #[.int .i64 1, .int .i64 0, .int .i64 0, .bool false, .slice none 0 0, .slice none 0 0, .int .i64 6, .int .i64 0, .int .i64 0, .bool false, .slice none 0 0, .slice none 0 0]
theorem L2_new (w : World) : SlP (w.alloc (.cells C2 52)) (some ⟨w.heap.size, 0, none⟩) 2 2 (L3.take 2) := by
  refine SlC.new w C2 52 (L3.take 2) (fun x _ => rfl) rfl (fun x hx => ?_) (by unfold maxLen; simp [L3])
  unfold L3 at hx
  simp only [List.take, List.mem_cons, List.not_mem_nil, or_false] at hx
  rcases hx with rfl | rfl <;> exact ins0_ok _ (by unfold I64; omega)
theorem one_new {w : World} {s : Bool} {A A' : Option Addr} {n c n' c' : Nat} {X : Rat} (q : Q w s A n c A' n' c' X) (zX : Sz X 64) : SlR (w.alloc (.cells #[.bool s, .slice A n c, .slice A' n' c'] 45)) (some ⟨w.heap.size, 0, none⟩) 1 1 [rqOf s A n c A' n' c' X] ∧ ∀ x ∈ [rqOf s A n c A' n' c' X], x.n ≤ 64 ∧ x.n' ≤ 64 := by
  refine ⟨SlC.new w _ _ [rqOf s A n c A' n' c' X] (fun x hx => by rw [List.mem_singleton.1 hx]; rfl) (by rfl) (fun x hx => ?_) (by unfold maxLen; simp), fun x hx => ?_⟩
  · rw [List.mem_singleton.1 hx]
    exact (rqOf_ok (q.below (below_alloc _ _)) zX (by omega)).1
  · rw [List.mem_singleton.1 hx]
    exact ⟨by have := q.2.1.small zX.1; exact this, by have := q.2.2.small zX.2; exact this⟩
theorem slr_none (w : World) : SlR w none 0 0 [] := ⟨⟨rfl, Nat.le_refl _, by unfold maxLen; omega, by simp⟩, fun h0 => absurd h0 (by omega)⟩
theorem one_is (w : World) : SlZ (w.alloc (.cells #[.int .i64 1] 3)) (some ⟨w.heap.size, 0, none⟩) 1 1 [1] := by
  refine SlC.new w _ _ [(1 : Int)] (fun x _ => rfl) (by rfl) (fun x hx => ?_) (by unfold maxLen; simp)
  rw [List.mem_singleton.1 hx]
  unfold I64; omega
theorem rq_3 {s : Bool} {A A' : Option Addr} {n c n' c' : Nat} (h : s = neg_ 3) : allR [rqOf s A n c A' n' c' 3] = true ∧ qvs [rqOf s A n c A' n' c' 3] = [3] := by
  subst h
  exact ⟨show (rightB (neg_ 3) (words (3 : Rat).num.natAbs) (words (3 : Rat).den) && true) = true by decide +kernel, show [rq (neg_ 3) (val (words (3 : Rat).num.natAbs)) (val (words (3 : Rat).den))] = [3] by decide +kernel⟩
theorem rq_1 {s : Bool} {A A' : Option Addr} {n c n' c' : Nat} (h : s = neg_ 1) : allR [rqOf s A n c A' n' c' 1] = true ∧ qvs [rqOf s A n c A' n' c' 1] = [1] := by
  subst h
  exact ⟨show (rightB (neg_ 1) (words (1 : Rat).num.natAbs) (words (1 : Rat).den) && true) = true by decide +kernel, show [rq (neg_ 1) (val (words (1 : Rat).num.natAbs)) (val (words (1 : Rat).den))] = [1] by decide +kernel⟩
theorem ex_sq : exAll ((L3.take 2).map RI.pi) true true [3] [] = .ok [3, 9] := by
  rw [exAll_yes L2_prog]
  kernel_rfl
theorem tg_sq : tgAll ((L3.take 2).map RI.pi) true true true true [3] [1] [] = .ok ([3, 9], [1, 6]) := by
  rw [tgAll_ok ex_sq]
  exact tgRun_ok (by kernel_rfl)
theorem bk_sq : bkAll ((L3.take 2).map RI.pi) true true true true [3] [] [1] [1] = .ok [6] := by
  rw [bkAll_ok ex_sq]
  exact bkRun_ok (s := ([6, 1], [6])) (by decide) (by kernel_rfl)

set_option maxRecDepth 100000 in
set_option maxHeartbeats 4000000 in
theorem same17 (w : World) : Calls Tryz.prog 8 #[] w (RetBl true w) := by
  have z3 : Sz (3 : Rat) 64 := ⟨by rw [show (3 : Rat).num.natAbs = 3 by decide +kernel]; exact Nat.lt_of_lt_of_le (by decide : 3 < W ^ 1) (Nat.pow_le_pow_right (by decide) (by omega)), by rw [show (3 : Rat).den = 1 by decide +kernel]; exact Nat.lt_of_lt_of_le (by decide : 1 < W ^ 1) (Nat.pow_le_pow_right (by decide) (by omega))⟩
  have z1 : Sz (1 : Rat) 64 := ⟨by rw [show (1 : Rat).num.natAbs = 1 by decide +kernel]; exact Nat.lt_of_lt_of_le (by decide : 1 < W ^ 1) (Nat.pow_le_pow_right (by decide) (by omega)), by rw [show (1 : Rat).den = 1 by decide +kernel]; exact Nat.lt_of_lt_of_le (by decide : 1 < W ^ 1) (Nat.pow_le_pow_right (by decide) (by omega))⟩
  have z6 : Sz (6 : Rat) 64 := ⟨by rw [show (6 : Rat).num.natAbs = 6 by decide +kernel]; exact Nat.lt_of_lt_of_le (by decide : 6 < W ^ 1) (Nat.pow_le_pow_right (by decide) (by omega)), by rw [show (6 : Rat).den = 1 by decide +kernel]; exact Nat.lt_of_lt_of_le (by decide : 1 < W ^ 1) (Nat.pow_le_pow_right (by decide) (by omega))⟩
  have T3 := law_three
  have O1 := fun w1 => ref_of 1 (by omega) (by omega) w1
  have O6 := fun w1 => ref_of 6 (by omega) (by omega) w1
  simp only [show ((1 : Int) : Rat) = 1 from rfl, show ((6 : Int) : Rat) = 6 from rfl] at O1 O6
  obtain ⟨V, hV⟩ : ∃ V, w.alloc (.cells C2 52) = V := ⟨_, rfl⟩
  have p0 := L2_new w
  have b0 := below_alloc w (.cells C2 52)
  rw [hV] at p0 b0
  unfold C2 at hV
  have HT3 := Lib.hid T3
  have HO1 := Lib.hid O1
  have HO6 := Lib.hid O6
  have HV := Lib.hid hV
  have Z3 := Lib.hid z3
  have Z1 := Lib.hid z1
  have Z6 := Lib.hid z6
  have HP := Lib.hid p0
  clear T3 O1 O6 hV z3 z1 z6 p0
  go_enter Tryz.func8, Tryz.ntmps8
  go_wp2_with fail
  rw [HV.out]
  with_reducible refine (HT3.out _).mono ?_
  rintro _ w1 ⟨s1, A1, n1, c1, D1, m1, d1, rfl, q1, b1⟩
  obtain ⟨V2, hV2⟩ : ∃ V2, w1.alloc (.cells #[.bool s1, .slice A1 n1 c1, .slice D1 m1 d1] 45) = V2 := ⟨_, rfl⟩
  have r1 := one_new q1 Z3.out
  have b2 := below_alloc w1 (.cells #[.bool s1, .slice A1 n1 c1, .slice D1 m1 d1] 45)
  rw [hV2] at r1 b2
  have HV2 := Lib.hid hV2
  have e1 := rq_3 (A := A1) (n := n1) (c := c1) (A' := D1) (n' := m1) (c' := d1) q1.1
  clear hV2
  go_wp2_with fail
  rw [HV2.out]
  with_reducible refine (HO1.out _).mono ?_
  rintro _ w3 ⟨s3, A3, n3, c3, D3, m3, d3, rfl, q3, b3⟩
  obtain ⟨V4, hV4⟩ : ∃ V2, w3.alloc (.cells #[.bool s3, .slice A3 n3 c3, .slice D3 m3 d3] 45) = V2 := ⟨_, rfl⟩
  have r3 := one_new q3 Z1.out
  have b4 := below_alloc w3 (.cells #[.bool s3, .slice A3 n3 c3, .slice D3 m3 d3] 45)
  rw [hV4] at r3 b4
  have HV4 := Lib.hid hV4
  have e3 := rq_1 (A := A3) (n := n3) (c := c3) (A' := D3) (n' := m3) (c' := d3) q3.1
  clear hV4
  have TO := tg_of (HP.out.below (bb b1 (bb b2 (bb b3 b4)))) (L2_sh 64) (r1.1.below (bb b3 b4)) r1.2 r3.1 r3.2 (slr_none V4) (by simp) (by omega) (by omega) (by omega) (by omega)
  rw [e1.1, e1.2, e3.1, e3.2, show allR [] = true from rfl, show qvs [] = [] from rfl, show decide (1 = 1) = true from rfl, tg_sq] at TO
  have HTO := Lib.hid TO
  clear TO
  go_wp2_with fail
  rw [HV4.out]
  with_reducible refine HTO.out.mono ?_
  rintro _ w5 ⟨⟨Av, nv, cv, At, nt, ct, rfl, qv, qt⟩, b5⟩
  have hnt : nt = 2 := qt.len
  subst hnt
  have HQT := Lib.hid qt
  clear qv qt e1 e3 r1 r3 q1 q3
  have y5 := bb b1 (bb b2 (bb b3 (bb b4 b5)))
  clear b1 b2 b3 b4 b5 HV2 HV4 HTO
  go_wp2_with fail
  with_reducible refine (HT3.out _).mono ?_
  rintro _ w6 ⟨s1, A1, n1, c1, D1, m1, d1, rfl, q1, b1⟩
  obtain ⟨V2, hV2⟩ : ∃ V2, w6.alloc (.cells #[.bool s1, .slice A1 n1 c1, .slice D1 m1 d1] 45) = V2 := ⟨_, rfl⟩
  have r1 := one_new q1 Z3.out
  have b2 := below_alloc w6 (.cells #[.bool s1, .slice A1 n1 c1, .slice D1 m1 d1] 45)
  rw [hV2] at r1 b2
  have HV2 := Lib.hid hV2
  obtain ⟨V3, hV3⟩ : ∃ V2', V2.alloc (.cells #[.int .i64 1] 3) = V2' := ⟨_, rfl⟩
  have ri := one_is V2
  have b2' := below_alloc V2 (.cells #[.int .i64 1] 3)
  rw [hV3] at ri b2'
  have hs2 : V2.heap.size = w6.heap.size + 1 := by rw [← HV2.out]; simp
  rw [hs2] at ri
  have HV3 := Lib.hid hV3
  have e1 := rq_3 (A := A1) (n := n1) (c := c1) (A' := D1) (n' := m1) (c' := d1) q1.1
  clear hV2 hV3
  go_wp2_with fail
  rw [HV2.out, HV3.out]
  with_reducible refine (HO1.out _).mono ?_
  rintro _ w7 ⟨s3, A3, n3, c3, D3, m3, d3, rfl, q3, b3⟩
  obtain ⟨V4, hV4⟩ : ∃ V2, w7.alloc (.cells #[.bool s3, .slice A3 n3 c3, .slice D3 m3 d3] 45) = V2 := ⟨_, rfl⟩
  have r3 := one_new q3 Z1.out
  have b4 := below_alloc w7 (.cells #[.bool s3, .slice A3 n3 c3, .slice D3 m3 d3] 45)
  rw [hV4] at r3 b4
  have HV4 := Lib.hid hV4
  have e3 := rq_1 (A := A3) (n := n3) (c := c3) (A' := D3) (n' := m3) (c' := d3) q3.1
  clear hV4
  have sz1 : ∀ x ∈ [rqOf s3 A3 n3 c3 D3 m3 d3 1], x.n ≤ 8 ∧ x.n' ≤ 8 := fun x hx => by
    rw [List.mem_singleton.1 hx]
    have g1 := q3.2.1.1
    have g2 := q3.2.2.1
    rw [show words (1 : Rat).num.natAbs = [1] by decide +kernel] at g1
    rw [show words (1 : Rat).den = [1] by decide +kernel] at g2
    have g3 : n3 ≤ 8 := by have := g1.1; simp at this; omega
    have g4 : m3 ≤ 8 := by have := g2.1; simp at this; omega
    exact ⟨g3, g4⟩
  have y6 := bb y5 (bb b1 (bb b2 (bb b2' (bb b3 b4))))
  have TB := tg_back (HP.out.below y6) (L2_sh 64) (r1.1.below (bb b2' (bb b3 b4))) r1.2 (slr_none V4) (by simp) (ri.below (bb b3 b4)) r3.1 sz1 (by omega) (by omega) (by omega) (by omega) (by omega)
  rw [e1.1, e1.2, e3.1, e3.2, show allR [] = true from rfl, show qvs [] = [] from rfl, show decide (1 = 1) = true from rfl, bk_sq] at TB
  have HTB := Lib.hid TB
  have x4 := bb b1 (bb b2 (bb b2' (bb b3 b4)))
  clear TB e1 e3 r1 r3 ri q1 q3 sz1 b1 b2 b2' b3 b4
  go_wp2_with fail
  rw [HV4.out]
  with_reducible refine HTB.out.mono ?_
  rintro _ w8 ⟨⟨Ab, nb, cb, rfl, qb⟩, b8⟩
  have hnb : nb = 1 := qb.len
  subst hnb
  have q8 := HQT.out.below (bb x4 b8)
  obtain ⟨bt, ot, s4, A4, n4, c4, D4, m4, d4, rfl, hlt, t0, t1, t2, q4⟩ := q8.at_ (show 1 < 2 by omega)
  obtain ⟨bb_, ob, s5, A5, n5, c5, D5, m5, d5, rfl, hlb, u0, u1, u2, q5⟩ := qb.at_ (show 0 < 1 by omega)
  have q4' : Q w8 s4 A4 n4 c4 D4 m4 d4 6 := q4
  have q5' : Q w8 s5 A5 n5 c5 D5 m5 d5 6 := q5
  have S1 := fun (w1 : World) (hb : Below w8.heap.size w8 w1) (s : Bool) (A A' : Option Addr) (n c n' c' : Nat) (q : Q w1 s A n c A' n' c' 6) => ref_sameQ (q4'.below hb) q Z6.out Z6.out (by omega)
  have S2 := fun (w1 : World) (hb : Below w8.heap.size w8 w1) (s : Bool) (A A' : Option Addr) (n c n' c' : Nat) (q : Q w1 s A n c A' n' c' 6) => ref_sameQ (q5'.below hb) q Z6.out Z6.out (by omega)
  simp only [show decide ((6 : Rat) = 6) = true from by simp] at S1 S2
  have hS : ∀ w', Below w8.heap.size w8 w' → (w'.cell? ⟨bt, ot + 1 * 3, none⟩ = some (.bool s4) ∧ w'.cell? ⟨bt, ot + 1 * 3 + 1, none⟩ = some (.slice A4 n4 c4) ∧ w'.cell? ⟨bt, ot + 1 * 3 + 2, none⟩ = some (.slice D4 m4 d4)) ∧ (w'.cell? ⟨bb_, ob + 0 * 3, none⟩ = some (.bool s5) ∧ w'.cell? ⟨bb_, ob + 0 * 3 + 1, none⟩ = some (.slice A5 n5 c5) ∧ w'.cell? ⟨bb_, ob + 0 * 3 + 2, none⟩ = some (.slice D5 m5 d5)) := fun w' hb =>
    ⟨⟨(hb.cell (p := ⟨bt, ot + 1 * 3, none⟩) hlt).trans t0, (hb.cell (p := ⟨bt, ot + 1 * 3 + 1, none⟩) hlt).trans t1, (hb.cell (p := ⟨bt, ot + 1 * 3 + 2, none⟩) hlt).trans t2⟩, (hb.cell (p := ⟨bb_, ob + 0 * 3, none⟩) hlb).trans u0, (hb.cell (p := ⟨bb_, ob + 0 * 3 + 1, none⟩) hlb).trans u1, (hb.cell (p := ⟨bb_, ob + 0 * 3 + 2, none⟩) hlb).trans u2⟩
  simp only [Nat.one_mul, Nat.zero_mul, Nat.add_zero, Nat.add_assoc, Nat.reduceAdd] at hS t0 t1 t2 u0 u1 u2
  have HS := Lib.hid hS
  have HS1 := Lib.hid S1
  have HS2 := Lib.hid S2
  have y8 := bb y6 b8
  clear hS S1 S2 q4 q5 q4' q5' q8 qb HQT HTB HT3 HO1
  go_wp2_with fail
  go_region_held3 (fun w' => (w'.cell? ⟨bt, ot + 3, none⟩ = some (.bool s4) ∧ w'.cell? ⟨bt, ot + 4, none⟩ = some (.slice A4 n4 c4) ∧ w'.cell? ⟨bt, ot + 5, none⟩ = some (.slice D4 m4 d4)) ∧ (w'.cell? ⟨bb_, ob, none⟩ = some (.bool s5) ∧ w'.cell? ⟨bb_, ob + 1, none⟩ = some (.slice A5 n5 c5) ∧ w'.cell? ⟨bb_, ob + 2, none⟩ = some (.slice D5 m5 d5))) (first | with_reducible exact HS.out _ (Below.refl _ w8).drew | with_reducible exact HS.out _ x9 | with_reducible exact HS.out _ x10 | with_reducible exact HS.out _ x11 | with_reducible exact HS.out _ x12 | fail)
    (first
      | (go_at_call 17; (fail_if_success have hh := x9); (with_reducible refine (HO6.out _).mono ?_); rintro _ w9 ⟨s9, A9, n9, c9, D9, m9, d9, rfl, q9, b9⟩; have x9 : Below w8.heap.size w8 w9 := Below.undrew b9)
      | (go_at_call 25; (fail_if_success have hh := x10); (with_reducible refine (HS1.out _ x9 _ _ _ _ _ _ _ q9).mono ?_); rintro _ w10 ⟨rfl, b10⟩; have x10 : Below w8.heap.size w8 w10 := bb x9 b10)
      | (go_at_call 17; (with_reducible refine (HO6.out _).mono ?_); rintro _ w11 ⟨s11, A11, n11, c11, D11, m11, d11, rfl, q11, b11⟩; have x11 : Below w8.heap.size w8 w11 := bb x10 b11)
      | (go_at_call 25; (with_reducible refine (HS2.out _ x11 _ _ _ _ _ _ _ q11).mono ?_); rintro _ w12 ⟨rfl, b12⟩; have x12 : Below w8.heap.size w8 w12 := bb x11 b12))
  all_goals
    go_wp2_with fail
    go_ret
    exact ⟨rfl, bb b0 (bb y8 x12)⟩

end Go.Proofs.YtfhihapgjiaobaaGreat

namespace Go.Proofs.YtfhihapgjiaobaaGreat
set_option maxRecDepth 100000
open Go.RowKit Go.Joins
set_option linter.unusedVariables false
set_option linter.unusedSimpArgs false

section
variable {H : Type} {enc : TypeId × Value → H} {w : World} {base : Nat} {held : Bool} {r : Reach} {b0 : Nat} {v : Value} {d : DataW H} {p : List MemPlace}
theorem arg_case (hv : Value.okWide Tryz.prog w r b0 25 v) (h : DataW.Trod enc Tryz.prog w base (fun _ => true) held 25 v d p) : ∃ A n c xs B m d k D kd e ds C kf f fs, v = .agg #[.slice A n c, .slice B m d, .slice D kd e, .slice C kf f] ∧ SlP w A n c xs ∧ SlR w B m d k ∧ SlR w D kd e ds ∧ SlR w C kf f fs := by
  obtain ⟨v0, v1, v2, v3, y0, y1, y2, y3, n, rfl, _, _, h0, h1, h2, h3⟩ := open_agg4 Tryz.underlying25 (by kernel_rfl) (show Tryz.prog.cellsOf 25 = 4 by kernel_rfl) hv h
  obtain ⟨A, n, c, xs, rfl, g0⟩ := open_slp Tryz.underlying22 ins_ty h0
  obtain ⟨B, m, d, is, rfl, g1⟩ := open_slr Tryz.underlying23 rat_ty h1
  obtain ⟨D, kd, e, ds, rfl, g2⟩ := open_slr Tryz.underlying23 rat_ty h2
  obtain ⟨C, kf, f, fs, rfl, g3⟩ := open_slr Tryz.underlying23 rat_ty h3
  exact ⟨_, _, _, _, _, _, _, _, _, _, _, _, _, _, _, _, rfl, g0, g1, g2, g3⟩
end

end Go.Proofs.YtfhihapgjiaobaaGreat

namespace Go.Proofs.YtfhihapgjiaobaaGreat
set_option maxRecDepth 100000
open Go.RowKit
set_option linter.unusedVariables false
set_option linter.unusedSimpArgs false

theorem Box.four {t : TypeId} {w : World} {g : Nat} {v0 v1 v2 v3 : Value} (h : Box t w g #[v0, v1, v2, v3]) :
    (w.cell? ⟨g, 0, none⟩ = some v0 ∧ w.cell? ⟨g, 1, none⟩ = some v1 ∧ w.cell? ⟨g, 2, none⟩ = some v2 ∧ w.cell? ⟨g, 3, none⟩ = some v3) :=
  ⟨h.cell 0, h.cell 1, h.cell 2, h.cell 3⟩
def FewD (n m kd k : Nat) (xs : List RI) (is ds fs : List RQ) : Prop := FewP n m k xs is fs ∧ kd ≤ 30 ∧ anyR 3 ds = false
set_option maxRecDepth 100000 in
set_option maxHeartbeats 4000000 in
theorem law_few17 {w : World} {A B D C : Option Addr} {n c m d kd e k f : Nat} {xs : List RI} {is ds fs : List RQ} (h : SlP w A n c xs) (hi : SlR w B m d is) (hd : SlR w D kd e ds) (hf : SlR w C k f fs) :
    ∃ b : Bool, (b = true ↔ FewD n m kd k xs is ds fs) ∧ Calls Tryz.prog 7 #[.agg #[.slice A n c, .slice B m d, .slice D kd e, .slice C k f]] w (RetBl b w) := by
  obtain ⟨V, hV, Bx, hb0⟩ := box0 25 w #[.slice A n c, .slice B m d, .slice D kd e, .slice C k f]
  obtain ⟨b, hb, FW⟩ := law_few (h.below hb0) (hi.below hb0) (hf.below hb0)
  have L1 := fun (w1 : World) (hb : Below w.heap.size w w1) => plain_longer (hd.below hb) 3
  have H1 := Lib.hid L1
  have HF := Lib.hid FW
  have HV := Lib.hid hV
  have HB := Lib.hid Bx
  clear L1 FW h hi hf hd hV Bx
  unfold FewD
  rw [← hb]
  clear hb
  generalize anyR 3 ds = q at *
  obtain ⟨k0, k1, k2, k3⟩ := HB.out.four
  cases b
  case false =>
    refine ⟨false, by simp, ?_⟩
    go_enter Tryz.func7, Tryz.ntmps7
    go_wp2_with fail
    rw [HV.out]
    with_reducible refine HF.out.mono ?_
    rintro _ w1 ⟨rfl, b1⟩
    go_wp2_with fail
    go_ret
    exact ⟨rfl, bb hb0 b1⟩
  case true =>
  by_cases h1 : kd ≤ 30
  case neg =>
    have e1 : decide ((kd : Int) ≤ 30) = false := decide_eq_false (by omega)
    have e2 : decide (kd ≤ 30) = false := decide_eq_false (by omega)
    refine ⟨false, by simp [h1], ?_⟩
    go_enter Tryz.func7, Tryz.ntmps7
    go_wp2_with fail
    rw [HV.out]
    with_reducible refine HF.out.mono ?_
    rintro _ w1 ⟨rfl, b1⟩
    obtain ⟨k0, k1, k2, k3⟩ := (HB.out.below' b1).four
    go_wp2_with fail
    go_ret
    exact ⟨rfl, bb hb0 b1⟩
  case pos =>
  cases q
  case true =>
    refine ⟨false, by simp, ?_⟩
    go_enter Tryz.func7, Tryz.ntmps7
    go_wp2_with fail
    rw [HV.out]
    with_reducible refine HF.out.mono ?_
    rintro _ w1 ⟨rfl, b1⟩
    obtain ⟨k0, k1, k2, k3⟩ := (HB.out.below' b1).four
    go_wp2_with fail
    with_reducible refine (H1.out _ (bb hb0 b1)).mono ?_
    rintro _ w2 ⟨rfl, b2⟩
    go_wp2_with fail
    go_ret
    exact ⟨rfl, bb hb0 (bb b1 b2)⟩
  case false =>
    refine ⟨true, by simp [h1], ?_⟩
    go_enter Tryz.func7, Tryz.ntmps7
    go_wp2_with fail
    rw [HV.out]
    with_reducible refine HF.out.mono ?_
    rintro _ w1 ⟨rfl, b1⟩
    obtain ⟨k0, k1, k2, k3⟩ := (HB.out.below' b1).four
    go_wp2_with fail
    with_reducible refine (H1.out _ (bb hb0 b1)).mono ?_
    rintro _ w2 ⟨rfl, b2⟩
    go_wp2_with fail
    go_ret
    exact ⟨rfl, bb hb0 (bb b1 b2)⟩

theorem few_short {n m kd k : Nat} {xs : List RI} {is ds fs : List RQ} (hb : FewD n m kd k xs is ds fs) : n ≤ 60 ∧ m ≤ 30 ∧ kd ≤ 30 ∧ k ≤ 60 ∧ Shrt 8 xs ∧ (∀ x ∈ is, x.n ≤ 3 ∧ x.n' ≤ 3) ∧ (∀ x ∈ ds, x.n ≤ 3 ∧ x.n' ≤ 3) ∧ (∀ x ∈ fs, x.n ≤ 3 ∧ x.n' ≤ 3) := by
  obtain ⟨⟨m1, m2, m3, m4, m5, m6⟩, m7, m8⟩ := hb
  unfold manyB at m1
  rw [Bool.or_eq_false_iff] at m1
  exact ⟨m2, m3, m7, m4, anyI_short m1.1, anyR_short (k := 3) m5, anyR_short (k := 3) m8, anyR_short (k := 3) m6⟩
theorem tg_oks {l : List PI} {p q r s : Bool} {is ds fs v t : List Rat} (h : tgAll l p q r s is ds fs = .ok (v, t)) : p = true ∧ q = true ∧ r = true ∧ s = true ∧ exAll l p q is fs = .ok v ∧ evTo (tanSt ds v) l l.length = .ok t := by
  unfold tgAll at h
  split at h
  · rename_i hrs
    split at h
    · cases h
    · rename_i v1 hv
      unfold tgRun at h
      split at h
      · rename_i t1 ht
        injection h with h
        injection h with h1 h2
        subst h1 h2
        exact ⟨(exAll_ok hv).2.1, (exAll_ok hv).2.2.1, hrs.2, hrs.1, hv, ht⟩
      · cases h
  · cases h

set_option maxRecDepth 100000 in
set_option maxHeartbeats 4000000 in
theorem tangentTells_walk {w : World} {A B D C : Option Addr} {n c m d kd e k f : Nat} {xs : List RI} {is ds fs : List RQ} (h : SlP w A n c xs) (hi : SlR w B m d is) (hd : SlR w D kd e ds) (hf : SlR w C k f fs) :
    Calls Tryz.prog 3 #[.agg #[.slice A n c, .slice B m d, .slice D kd e, .slice C k f]] w (RetBl true w) := by
  obtain ⟨V, hV, Bx, hb0⟩ := box0 25 w #[.slice A n c, .slice B m d, .slice D kd e, .slice C k f]
  obtain ⟨b, hb, FW⟩ := law_few17 (h.below hb0) (hi.below hb0) (hd.below hb0) (hf.below hb0)
  have HFW := Lib.hid FW
  have HV := Lib.hid hV
  have HB := Lib.hid Bx
  obtain ⟨k0, k1, k2, k3⟩ := HB.out.four
  clear FW hV Bx
  cases b
  case false =>
    clear hb
    go_enter Tryz.func3, Tryz.ntmps3
    go_wp2_with fail
    rw [HV.out]
    with_reducible refine HFW.out.mono ?_
    rintro _ w1 ⟨rfl, b1⟩
    go_wp2_with fail
    with_reducible refine (same17 _).mono ?_
    rintro _ w2 ⟨rfl, b2⟩
    go_wp2_with fail
    go_ret
    exact ⟨rfl, bb hb0 (bb b1 b2)⟩
  case true =>
    obtain ⟨m1, m2, m3, m4, hs, hsi, hsd, hsf⟩ := few_short (hb.1 rfl)
    have hs' : Shrt 64 xs := fun x hx => ⟨Nat.le_trans (hs x hx).1 (by omega), Nat.le_trans (hs x hx).2 (by omega)⟩
    have hsi' : ∀ x ∈ is, x.n ≤ 64 ∧ x.n' ≤ 64 := fun x hx => by have := hsi x hx; omega
    have hsd' : ∀ x ∈ ds, x.n ≤ 64 ∧ x.n' ≤ 64 := fun x hx => by have := hsd x hx; omega
    have hsf' : ∀ x ∈ fs, x.n ≤ 64 ∧ x.n' ≤ 64 := fun x hx => by have := hsf x hx; omega
    have E1 := fun (w1 : World) (hb9 : Below w.heap.size w w1) => tg_of (h.below hb9) hs' (hi.below hb9) hsi' (hd.below hb9) hsd' (hf.below hb9) hsf' (by omega) (by omega) (by omega) (by omega)
    have E2 := fun (w1 : World) (hb9 : Below w.heap.size w w1) => rf_of17 (h.below hb9) hs' (hi.below hb9) hsi' (hd.below hb9) hsd' (hf.below hb9) hsf' (by omega) (by omega) (by omega) (by omega)
    have hlen : (xs.map RI.pi).length = n := by rw [List.length_map]; exact h.1.1
    have hre := fun v t => @tg_oks (xs.map RI.pi) (allR is) (allR fs) (allR ds) (decide (m = kd)) (qvs is) (qvs ds) (qvs fs) v t
    obtain ⟨R, hR⟩ : ∃ R, tgAll (xs.map RI.pi) (allR is) (allR fs) (allR ds) (decide (m = kd)) (qvs is) (qvs ds) (qvs fs) = R := ⟨_, rfl⟩
    simp only [hR] at E1 E2 hre
    have hsz : ∀ v t, R = .ok (v, t) → AllSz 64 v ∧ v.length = n ∧ AllSz 64 t ∧ t.length = n := fun v t hv => by
      obtain ⟨_, _, _, _, g1, g2⟩ := hre v t hv
      have g3 := (exAll_ok g1).2.2.2
      exact ⟨exact_sz g3, by rw [evTo_len g3, hlen], tans_sz g2, by rw [evTo_len g2, hlen]⟩
    have HE1 := Lib.hid E1
    have HE2 := Lib.hid E2
    clear E1 E2 hR hb h hi hf hd hs hsi hsd hsf hs' hsi' hsd' hsf' hre hlen
    cases R with
    | error er =>
      obtain ⟨i, er⟩ := er
      clear hsz
      go_enter Tryz.func3, Tryz.ntmps3
      go_wp2_with fail
      rw [HV.out]
      with_reducible refine HFW.out.mono ?_
      rintro _ w1 ⟨rfl, b1⟩
      obtain ⟨k0, k1, k2, k3⟩ := (HB.out.below' b1).four
      go_wp2_with fail
      with_reducible refine (HE1.out _ (bb hb0 b1)).mono ?_
      rintro _ w2 ⟨rfl, b2⟩
      obtain ⟨k0, k1, k2, k3⟩ := (HB.out.below' (bb b1 b2)).four
      go_wp2_with fail
      with_reducible refine (HE2.out _ (bb hb0 (bb b1 b2))).mono ?_
      rintro _ w3 ⟨rfl, b3⟩
      have y3 := bb hb0 (bb b1 (bb b2 b3))
      have SR := fun w4 => ref_sameR (SlQ.nil w4) (SlQ.nil w4) (fun X hX => by simp at hX) (by omega)
      have HSR := Lib.hid SR
      clear SR
      go_wp2_with fail
      with_reducible refine (HSR.out _).mono ?_
      rintro _ w4 ⟨rfl, b4⟩
      go_wp2_with fail
      with_reducible refine (HSR.out _).mono ?_
      rintro _ w5 ⟨rfl, b5⟩
      go_wp2_with fail
      with_reducible refine (same17 _).mono ?_
      rintro _ w6 ⟨rfl, b6⟩
      go_wp2_with fail
      go_ret
      exact ⟨rfl, bb y3 (bb b4 (bb b5 b6))⟩
    | ok vt =>
      obtain ⟨v, t⟩ := vt
      obtain ⟨z1, z2, z3, z4⟩ := hsz v t rfl
      clear hsz
      have HZ1 := Lib.hid z1
      have HZ3 := Lib.hid z3
      have HZ2 := Lib.hid z2
      have HZ4 := Lib.hid z4
      clear z1 z2 z3 z4
      go_enter Tryz.func3, Tryz.ntmps3
      go_wp2_with fail
      rw [HV.out]
      with_reducible refine HFW.out.mono ?_
      rintro _ w1 ⟨rfl, b1⟩
      obtain ⟨k0, k1, k2, k3⟩ := (HB.out.below' b1).four
      go_wp2_with fail
      with_reducible refine (HE1.out _ (bb hb0 b1)).mono ?_
      rintro _ w2 ⟨⟨A2, n2, c2, B2, r2, d2, rfl, q2, u2⟩, b2⟩
      obtain rfl : n = n2 := by rw [q2.len]; exact HZ2.out.symm
      obtain rfl : n = r2 := by rw [u2.len]; exact HZ4.out.symm
      have HQ2 := Lib.hid q2
      have HU2 := Lib.hid u2
      obtain ⟨k0, k1, k2, k3⟩ := (HB.out.below' (bb b1 b2)).four
      clear q2 u2
      go_wp2_with fail
      with_reducible refine (HE2.out _ (bb hb0 (bb b1 b2))).mono ?_
      rintro _ w3 ⟨⟨A3, n3, c3, B3, r3, d3, rfl, q3, u3⟩, b3⟩
      obtain rfl : n = n3 := by rw [q3.len]; exact HZ2.out.symm
      obtain rfl : n = r3 := by rw [u3.len]; exact HZ4.out.symm
      have y3 := bb hb0 (bb b1 (bb b2 b3))
      have SR := ref_sameR (HQ2.out.below b3) q3 HZ1.out (by omega)
      have ST := fun (w4 : World) (hb : Below w3.heap.size w3 w4) => ref_sameR (HU2.out.below (bb b3 hb)) (u3.below hb) HZ3.out (by omega)
      have HSR := Lib.hid SR
      have HST := Lib.hid ST
      clear q3 u3 HQ2 HU2 SR ST
      go_wp2_with fail
      with_reducible refine HSR.out.mono ?_
      rintro _ w4 ⟨rfl, b4⟩
      go_wp2_with fail
      with_reducible refine (HST.out _ b4).mono ?_
      rintro _ w5 ⟨rfl, b5⟩
      go_wp2_with fail
      with_reducible refine (same17 _).mono ?_
      rintro _ w6 ⟨rfl, b6⟩
      go_wp2_with fail
      go_ret
      exact ⟨rfl, bb y3 (bb b4 (bb b5 b6))⟩

theorem tangentTells_row (A : Option Addr) (n c : Nat) (xs : List RI) (B : Option Addr) (m d : Nat) (is : List RQ) (D : Option Addr) (kd e : Nat) (ds : List RQ) (C : Option Addr) (k f : Nat) (fs : List RQ) (w : World) (h : SlP w A n c xs) (hi : SlR w B m d is) (hd : SlR w D kd e ds) (hf : SlR w C k f fs) :
    Calls Tryz.prog 3 #[.agg #[.slice A n c, .slice B m d, .slice D kd e, .slice C k f]] w (RetBl true w) := tangentTells_walk h hi hd hf

end Go.Proofs.YtfhihapgjiaobaaGreat
