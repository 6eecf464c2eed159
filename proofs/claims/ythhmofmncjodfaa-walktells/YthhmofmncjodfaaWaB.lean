/-
  What At and Next of package walk return. Conditions: the slices read as lists of ints.
-/
import Derived.Test.YthhmofmncjodfaaWaA
namespace Go.Proofs.Ythhmofmncjodfaa
open Go.RowKit
set_option linter.unusedVariables false
set_option linter.unusedSimpArgs false

/-- the slice lies in a block of ints -/
def Typ (w : World) (A : Option Addr) (n : Nat) : Prop := 0 < n → ∃ b off cur fr, A = some ⟨b, off, none⟩ ∧ w.heap[b]? = some (.cells cur 3 fr)
theorem Typ.below {w w' : World} {A : Option Addr} {n : Nat} (h : Typ w A n) (hb : Below w.heap.size w w') : Typ w' A n := fun h0 => by
  obtain ⟨b, off, cur, fr, e, hh⟩ := h h0
  exact ⟨b, off, cur, fr, e, (hb.block b (Array.getElem?_eq_some_iff.1 hh).1).trans hh⟩
theorem Typ.nil (w : World) (A : Option Addr) : Typ w A 0 := fun h => absurd h (by omega)
/-- a slice of ints, in new memory, in a block of ints, and a truth -/
def RetZB (xs : List Int) (b : Bool) (w : World) (e : Ending) (w' : World) : Prop := ∃ A n c, e = .returned (.tuple #[.slice A n c, .bool b]) ∧ SlZ w' A n c xs ∧ Typ w' A n ∧ (0 < n → New w A) ∧ Below w.heap.size w w'
theorem retZB_no {w w' : World} (h : Below w.heap.size w w') : RetZB [] false w (.returned (.tuple #[.slice none 0 0, .bool false])) w' := ⟨none, 0, 0, rfl, SlZ.nil _ _ _ (by unfold maxLen; omega), Typ.nil _ _, fun h => absurd h (by omega), h⟩
def atB (d : List Int) (n : Int) : Bool := decide (0 ≤ n ∧ n < cntZ d)
def atR (d : List Int) (n : Int) : List Int := if atB d n then castL (placeN (nat_ d) n.toNat) else []
theorem atB_ok {d : List Int} {n : Int} (h : 0 ≤ n ∧ n < cntZ d) : atB d n = true := decide_eq_true h
theorem atB_no {d : List Int} {n : Int} (h : ¬ (0 ≤ n ∧ n < cntZ d)) : atB d n = false := decide_eq_false h
theorem atR_ok {d : List Int} {n : Int} (h : atB d n = true) : atR d n = castL (placeN (nat_ d) n.toNat) := by unfold atR; rw [h]; rfl
theorem atR_no {d : List Int} {n : Int} (h : atB d n = false) : atR d n = [] := by unfold atR; rw [h]; rfl
theorem place_i64 {d : List Int} (hv : Vd d) {m : Nat} (hm : m < prodN (nat_ d)) : ∀ x ∈ castL (placeN (nat_ d) m), I64 x := by
  have hin := val_in hv.pos (placeN_val hm)
  obtain ⟨h1, h2⟩ := (inB_iff _ _).1 hin
  intro x hx
  obtain ⟨i, hi, rfl⟩ := List.getElem_of_mem hx
  have h3 := h2 i (by omega)
  rw [getD_eq hi] at h3
  have h4 := hv.at (k := i) (by omega)
  unfold I64
  omega
theorem place_all {d zs : List Int} {m : Nat} (hl : zs.length = d.length) (h : ∀ i, i < d.length → zs.getD i 0 = ((placeN (nat_ d) m).getD i 0 : Nat)) : zs = castL (placeN (nat_ d) m) := by
  apply List.ext_getElem
  · rw [hl, length_castL, length_placeN, length_nat]
  · intro i h1 h2
    have h3 := h i (by omega)
    rw [getD_eq h1] at h3
    rw [h3, ← castL_at (by rw [length_placeN, length_nat]; omega), getD_eq h2]

set_option maxRecDepth 100000 in
set_option maxHeartbeats 4000000 in
theorem wa_at {w : World} {A : Option Addr} {n c : Nat} {d : List Int} (h : SlZ w A n c d) (z : Int) : Calls Try.prog 33 #[.slice A n c, .int .i64 z] w (RetZB (atR d z) (atB d z) w) := by
  have hn := h.small
  have CN := sh_count h
  have HL := Lib.hid h.len
  by_cases hz0 : z < 0
  · have hb : atB d z = false := atB_no (by omega)
    rw [hb, atR_no hb]
    clear hb CN
    go_enter Try.func33, Try.ntmps33
    go_wp2_with fail
    go_ret2
    exact retZB_no (Below.refl _ _)
  · have hd0 : decide (z < 0) = false := by simpa using hz0
    by_cases hz1 : cntZ d ≤ z
    · have hb : atB d z = false := atB_no (by omega)
      rw [hb, atR_no hb]
      have hd1 : decide (cntZ d ≤ z) = true := by simpa using hz1
      have HC := Lib.hid CN
      clear hb CN
      go_enter Try.func33, Try.ntmps33
      go_wp2_with fail
      refine HC.out.mono ?_
      rintro _ _ ⟨rfl, rfl⟩
      go_wp2_with fail
      go_ret2
      exact retZB_no (Below.refl _ _)
    · have hb : atB d z = true := atB_ok (by omega)
      rw [hb, atR_ok hb]
      have hd1 : decide (cntZ d ≤ z) = false := by simpa using hz1
      have h0 : chk d = 0 := by
        by_cases h9 : chk d = 0
        · exact h9
        · rw [cntZ_no h9] at hz1; omega
      have hv := vd_of h0
      obtain ⟨m, rfl⟩ : ∃ m : Nat, z = (m : Int) := ⟨z.toNat, by omega⟩
      have hmp : m < prodN (nat_ d) := by
        rw [cntZ_ok h0] at hz1
        have := prod_nat hv.pos
        omega
      have hm64 : m ≤ 64 := by
        have := prod_nat hv.pos
        have := hv.prod
        omega
      rw [Int.toNat_natCast]
      have hn6 : n ≤ 6 := by have := hv.len; have := h.len; omega
      have HC := Lib.hid CN
      have HV := Lib.hid hv
      have HM := Lib.hid hmp
      obtain ⟨w1, hmk, hr1, b1, _⟩ := make_zs w n (by omega)
      have ST := sh_steps (h.below b1)
      rw [stps_ok h0] at ST
      have HS := Lib.hid ST
      have HR1 := Lib.hid hr1
      have HB := Lib.hid b1
      clear hb CN h0 hv hmp ST hr1
      go_enter Try.func33, Try.ntmps33
      go_wp2_with fail
      refine HC.out.mono ?_
      rintro _ _ ⟨rfl, rfl⟩
      go_wp2_with fail
      refine HS.out.mono ?_
      rintro _ w2 ⟨A1, n1, c1, rfl, s1, hnew, b2⟩
      have hn1 : n1 = n := by rw [← s1.len, length_stepsZ, HL.out]
      subst n1
      have HR2 := Lib.hid (HR1.out.below b2)
      have HB2 := bb HB.out b2
      have hAn : 0 < n → ∀ b off, A1 = some ⟨b, off, none⟩ → b ≠ w.heap.size := fun h9 b off e9 => by
        have h8 := hnew h9 b off e9
        have h7 := HR1.out.lt
        omega
      have HAN := Lib.hid hAn
      have HS1 := Lib.hid s1
      clear HC HS hmk HR1 HB b1 b2 hnew hAn s1
      go_wp2_with fail
      go_loopw [1, 23] (fun rv iv wr => ∃ (k r : Nat) (zs : List Int), k ≤ n ∧ iv = .int .i64 k ∧ rv = .int .i64 r ∧ r ≤ 64 ∧ Hid (r = remN (nat_ d) m k) ∧ Hid (zs.length = n) ∧ Hid (IRow wr w.heap.size zs) ∧ Hid (∀ i, i < k → zs.getD i 0 = ((placeN (nat_ d) m).getD i 0 : Nat)) ∧ Hid (KC (fun b => b = w.heap.size) w2 wr) ∧ Below w.heap.size w wr) (fun _ iv _ => n - mes iv)
      case atStart => exact ⟨0, m, List.replicate n 0, by omega, rfl, rfl, hm64, Lib.hid rfl, Lib.hid (by simp), HR2, Lib.hid (fun i hi => by omega), Lib.hid (KC.refl _ _), HB2⟩
      case round =>
        clear HR2 HB2
        obtain ⟨k, r, zs, hk, rfl, rfl, hr, HREM, HZL, HR, HP, HK, hb⟩ := hrel
        by_cases hk2 : k < n
        · obtain ⟨g2, o2, y, hy, rfl, _, _, k2⟩ := (HS1.out.kc HK.out HAN.out).get hk2
          rw [stepsZ_at (by rw [HL.out]; exact hk2)] at hy
          have hp := drop_prod HV.out.pos (k + 1)
          rw [hy] at hp
          have hpos := prodZ_pos (HV.out.pos.drop (k + 1))
          have hle := prodZ_drop_le HV.out.pos (k + 1)
          have hpr := HV.out.prod
          have hpl := placeN_at (ds := nat_ d) (m := m) (k := k) (by rw [length_nat, HL.out]; exact hk2)
          have hrn : remN (nat_ d) m (k + 1) = r % prodN ((nat_ d).drop (k + 1)) := by rw [remN, HREM.out]
          rw [← HREM.out] at hpl
          rw [hy] at hpos hle
          generalize prodN ((nat_ d).drop (k + 1)) = q at hp hpl hrn
          subst hp
          have hq1 : 1 ≤ q := by omega
          have hq64 : q ≤ 64 := by omega
          have c1 := HR.out.cell (i := k) (by rw [HZL.out]; exact hk2)
          have f1 := HR.out.free k
          generalize zs.getD k 0 = v0 at c1
          have hmod : r % q ≤ 64 := Nat.le_trans (Nat.mod_le _ _) hr
          have t1 : (r : Int).tdiv (q : Int) = ((r / q : Nat) : Int) := by rw [Int.tdiv_eq_ediv_of_nonneg (by omega), Int.natCast_ediv]
          have t2 : (r : Int).tmod (q : Int) = ((r % q : Nat) : Int) := by rw [Int.tmod_eq_emod_of_nonneg (by omega), Int.natCast_emod]
          have hqa : 0 ≤ (r : Int) / (q : Int) := Int.ediv_nonneg (by omega) (by omega)
          have hqb : (r : Int) / (q : Int) ≤ 64 := Int.le_trans (Int.ediv_le_self _ (by omega)) (by omega)
          have HPL := Lib.hid hpl
          have HRN := Lib.hid hrn
          clear hy hpos hle hpr hpl hrn t1 t2
          go_wp2_with fail
          go_roundw
          case rel =>
            refine ⟨k + 1, r % q, zs.set k ((r / q : Nat) : Int), by omega, by go_num, by go_num, hmod, Lib.hid HRN.out.symm, Lib.hid (by rw [List.length_set]; exact HZL.out), Lib.hid ?_, Lib.hid (fun i hi => ?_), Lib.hid (HK.out.setCell rfl _ _), hb.setCell (p := ⟨w.heap.size, k, none⟩) (Nat.le_refl _) _⟩
            · have := HR.out.set k ((r / q : Nat) : Int)
              rw [Int.natCast_ediv] at this ⊢
              exact this
            · rw [setI_at (by rw [HZL.out]; exact hk2)]
              by_cases e9 : i = k
              · subst e9
                rw [if_pos rfl, HPL.out]
              · rw [if_neg e9]
                exact HP.out i (by omega)
          case measure => simp [mes, intOf]; omega
        · obtain rfl : k = n := by omega
          have hz := place_all (d := d) (m := m) (zs := zs) (by rw [HZL.out, HL.out]) (fun i hi => HP.out i (by rw [HL.out] at hi; exact hi))
          have hs := HR.out.slz (c := k) (by rw [hz]; exact place_i64 HV.out HM.out) (by rw [HZL.out]; exact Nat.le_refl _) (by unfold maxLen; omega)
          rw [HZL.out, hz] at hs
          have HSF := Lib.hid hs
          have hty : Typ wr (some ⟨w.heap.size, 0, none⟩) k := fun _ => ⟨_, _, _, _, rfl, HR.out⟩
          have HTY := Lib.hid hty
          clear hz hs hty HR HP
          go_wp2_with fail
          go_ret2
          exact ⟨_, _, _, rfl, HSF.out, HTY.out, fun _ => New.some_ (Nat.le_refl _), hb⟩

def nxB (d a : List Int) : Bool := plB d a && atB d (plR d a + 1)
def nxR (d a : List Int) : List Int := if plB d a then atR d (plR d a + 1) else []
set_option maxRecDepth 100000 in
set_option maxHeartbeats 1000000 in
theorem wa_next {w : World} {A B : Option Addr} {n c m e : Nat} {d a : List Int} (h : SlZ w A n c d) (h' : SlZ w B m e a) : Calls Try.prog 35 #[.slice A n c, .slice B m e] w (RetZB (nxR d a) (nxB d a) w) := by
  have P := wa_place h h'
  cases hp : plB d a
  case false =>
    unfold nxR nxB
    rw [hp, Bool.false_and]
    rw [hp, plR_no hp] at P
    have HP := Lib.hid P
    clear P hp
    go_enter Try.func35, Try.ntmps35
    go_wp2_with fail
    refine HP.out.mono ?_
    rintro _ w1 ⟨rfl, b1⟩
    go_wp2_with fail
    go_ret2
    exact retZB_no b1
  case true =>
    unfold nxR nxB
    rw [hp, Bool.true_and]
    rw [hp] at P
    simp only [if_true]
    have hr : 0 ≤ plR d a ∧ plR d a ≤ 64 := by
      rw [plR_ok hp]
      obtain ⟨h1, h2⟩ := plB_ok hp
      have h3 := numN_lt (in_val (vd_of h1).pos h2).1
      have h4 := prod_nat (vd_of h1).pos
      have h5 := (vd_of h1).prod
      omega
    generalize plR d a = z at P hr ⊢
    obtain ⟨hr1, hr2⟩ := hr
    have HP := Lib.hid P
    clear P hp
    go_enter Try.func35, Try.ntmps35
    go_wp2_with fail
    refine HP.out.mono ?_
    rintro _ w1 ⟨rfl, b1⟩
    have AT := wa_at (h.below b1) (z + 1)
    have HA := Lib.hid AT
    clear AT HP
    go_wp2_with fail
    refine HA.out.mono ?_
    rintro _ w2 ⟨A2, n2, c2, rfl, s2, t2, nw, b2⟩
    go_wp2_with fail
    go_ret2
    exact ⟨_, _, _, rfl, s2, t2, fun h9 => (nw h9).mono b1.size, bb b1 b2⟩

end Go.Proofs.Ythhmofmncjodfaa
