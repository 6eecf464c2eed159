/-
  What the reading functions of package nat, and the document's answers beside them, return: sizes, words, comparisons, bits. Conditions: the slices read as lists of words, of at most 10^9 words.
-/
import Derived.Test.YtmoahgiklgicgaaDoorU64
import Derived.Below
import Derived.Laws.OwnMore
import Derived.Laws.Rows
import Derived.Deep.OwnRows
import Derived.Deep.Draws
import Derived.Test.YtmoahgiklgicgaaDoorFsMathAll
import Derived.Deep.DeepCutAuto
import Derived.Test.YtmoahgiklgicgaaDoorFltMath2All
import Derived.Test.YtmoahgiklgicgaaDoorNatMath
namespace Go.Proofs.YtmoahgiklgicgaaDoor
set_option maxRecDepth 100000
open Go.RowKit
set_option linter.unusedVariables false
set_option linter.unusedSimpArgs false

/-- the slice value '.slice A n c' reads, in w, as the list xs of words -/
def Sl (w : World) (A : Option Addr) (n c : Nat) (xs : List Int) : Prop :=
  (xs.length = n ∧ n ≤ c ∧ ∀ x ∈ xs, U x) ∧ (0 < n → ∃ b off, A = some ⟨b, off, none⟩ ∧ b < w.heap.size ∧ ∀ j, j < n → w.cell? ⟨b, off + j, none⟩ = some (.int .u64 (xs.getD j 0)))

theorem Sl.len {w : World} {A : Option Addr} {n c : Nat} {xs : List Int} (h : Sl w A n c xs) : n = xs.length := h.1.1.symm
theorem Sl.cap {w : World} {A : Option Addr} {n c : Nat} {xs : List Int} (h : Sl w A n c xs) : n ≤ c := h.1.2.1
theorem Sl.us {w : World} {A : Option Addr} {n c : Nat} {xs : List Int} (h : Sl w A n c xs) : ∀ x ∈ xs, U x := h.1.2.2
theorem Sl.u {w : World} {A : Option Addr} {n c : Nat} {xs : List Int} (h : Sl w A n c xs) (j : Nat) : U (xs.getD j 0) := by
  by_cases hj : j < xs.length
  · rw [List.getD_eq_getElem?_getD, List.getElem?_eq_getElem hj]
    exact h.us _ (List.getElem_mem hj)
  · rw [List.getD_eq_getElem?_getD, List.getElem?_eq_none (by omega)]
    exact U_0
theorem Sl.at_ {w : World} {A : Option Addr} {n c k : Nat} {xs : List Int} (h : Sl w A n c xs) (hk : k < n) :
    ∃ b off, A = some ⟨b, off, none⟩ ∧ b < w.heap.size ∧ ∀ j, j < n → w.cell? ⟨b, off + j, none⟩ = some (.int .u64 (xs.getD j 0)) := h.2 (by omega)
theorem Sl.below {w w' : World} {A : Option Addr} {n c : Nat} {xs : List Int} (h : Sl w A n c xs) (hb : Below w.heap.size w w') : Sl w' A n c xs := by
  refine ⟨h.1, fun h0 => ?_⟩
  obtain ⟨b, off, e, hlt, hc⟩ := h.2 h0
  exact ⟨b, off, e, Nat.lt_of_lt_of_le hlt hb.size, fun j hj => (hb.cell (p := ⟨b, off + j, none⟩) hlt).trans (hc j hj)⟩
theorem Sl.drewN {w : World} {A : Option Addr} {n c : Nat} {xs : List Int} (h : Sl w A n c xs) (k : Nat) : Sl (w.drewN k) A n c xs := h
theorem Sl.nil (w : World) (A : Option Addr) (c : Nat) : Sl w A 0 c [] := ⟨⟨rfl, Nat.zero_le _, by simp⟩, fun h => absurd h (by omega)⟩
theorem Sl.take {w : World} {A : Option Addr} {n c k : Nat} {xs : List Int} (h : Sl w A n c xs) (hk : k ≤ n) : Sl w A k c (xs.take k) := by
  refine ⟨⟨by rw [List.length_take, h.1.1]; omega, by have := h.cap; omega, fun x hx => h.us x (List.mem_of_mem_take hx)⟩, fun h0 => ?_⟩
  obtain ⟨b, off, e, hlt, hc⟩ := h.2 (by omega)
  refine ⟨b, off, e, hlt, fun j hj => ?_⟩
  rw [hc j (by omega)]
  simp [List.getD_eq_getElem?_getD, List.getElem?_take, hj]

/-- block g of w is just the words zs, none frozen; t is the number of the type uint64 -/
def Row (t : TypeId) (w : World) (g : Nat) (zs : List Int) : Prop := w.heap[g]? = some (.cells (zs.map (Value.int .u64)).toArray t (0, 0))
section
variable {t : TypeId} {w w' : World} {g : Nat} {zs : List Int}
theorem Row.lt (h : Row t w g zs) : g < w.heap.size := by
  rcases Nat.lt_or_ge g w.heap.size with hlt | hge
  · exact hlt
  · unfold Row at h; rw [Array.getElem?_eq_none hge] at h; cases h
theorem Row.cell (h : Row t w g zs) {i : Nat} (hi : i < zs.length) : w.cell? ⟨g, i, none⟩ = some (.int .u64 (zs.getD i 0)) := by
  rw [cell_of_row w g i _ t (0, 0) h]
  simp [List.getD_eq_getElem?_getD, List.getElem?_eq_getElem hi]
theorem Row.free (h : Row t w g zs) (i : Nat) : w.frozen? ⟨g, i, none⟩ = false := by
  unfold Row at h
  simp [World.frozen?, h]
theorem Row.set (h : Row t w g zs) (i : Nat) (u : Int) : Row t (w.setCell ⟨g, i, none⟩ (.int .u64 u)) g (zs.set i u) := by
  unfold Row at h ⊢
  simp [World.setCell, Array.getElem?_modify, h, List.map_set]
theorem Row.drewN (h : Row t w g zs) (k : Nat) : Row t (w.drewN k) g zs := h
theorem Row.drew (h : Row t w g zs) : Row t w.drew g zs := h
theorem Row.below {B : Nat} (h : Row t w g zs) (hb : Below B w w') (hg : g < B) : Row t w' g zs := (hb.block g hg).trans h
theorem Row.new (w : World) (t : TypeId) (n : Nat) : Row t (w.alloc (.cells (madeCells #[.int .u64 0] n) t)) w.heap.size (List.replicate n 0) := by
  have e : madeCells #[.int .u64 0] n = ((List.replicate n (0 : Int)).map (Value.int .u64)).toArray := by
    apply Array.toList_inj.1
    rw [toList_madeCells_one]
    simp
  unfold Row
  rw [e]
  exact heap_alloc_new w _
theorem Row.lit (w : World) (t : TypeId) (zs : List Int) : Row t (w.alloc (.cells (zs.map (Value.int .u64)).toArray t)) w.heap.size zs := heap_alloc_new w _
theorem Row.sl {c : Nat} (h : Row t w g zs) (hu : ∀ x ∈ zs, U x) (hc : zs.length ≤ c) : Sl w (some ⟨g, 0, none⟩) zs.length c zs :=
  ⟨⟨rfl, hc, hu⟩, fun _ => ⟨g, 0, rfl, h.lt, fun j hj => by rw [Nat.zero_add]; exact h.cell hj⟩⟩
end
/-- what append's laws own is such a slice -/
theorem Sl.of_own {w : World} {base : Nat} {t : TypeId} {A : Option Addr} {n c : Nat} {zs : List Int} (h : w.ownsRow base t 1 (.slice A n c) n (zs.map (Value.int .u64))) (hu : ∀ x ∈ zs, U x) : Sl w A n c zs := by
  have hl : zs.length = n := by have := h.1; simpa using this
  obtain ⟨h1, h2⟩ := h
  rcases h2 with ⟨hv, hz⟩ | ⟨g, cap, cur, hv, _, hh, hnc, r⟩
  · injection hv with ha hb hc
    subst ha hb hc
    exact ⟨⟨hl, Nat.le_refl _, hu⟩, fun h => absurd h (by omega)⟩
  · have own : w.ownsRow base t 1 (.slice A n c) n (zs.map (Value.int .u64)) := ⟨h1, .inr ⟨g, cap, cur, hv, ‹_›, hh, hnc, r⟩⟩
    injection hv with ha _ hc
    subst ha hc
    have hlt : g < w.heap.size := (own.lt g rfl).2
    refine ⟨⟨hl, hnc, hu⟩, fun _ => ⟨g, 0, rfl, hlt, fun j hj => ?_⟩⟩
    rw [Nat.zero_add, own.cellAt j (by omega)]
    simp [List.getD_eq_getElem?_getD, List.getElem?_eq_getElem (show j < zs.length by omega)]

/-- a call that returns a slice that reads as xs, and turns nothing that was there -/
def RetSl (xs : List Int) (w : World) (e : Ending) (w' : World) : Prop := ∃ A n c, e = .returned (.slice A n c) ∧ Sl w' A n c xs ∧ Below w.heap.size w w'

theorem below_drewN (w : World) (n : Nat) : Below w.heap.size w (w.drewN n) := ⟨rfl, rfl, rfl, Nat.le_refl _, fun _ _ => rfl⟩
theorem Below.drewN' {B : Nat} {a w : World} (h : Below B a w) (n : Nat) : Below B a (w.drewN n) := ⟨h.os, h.tape, h.output, h.size, h.block⟩

/-- the address lies in memory that was not there -/
def New (w : World) (A : Option Addr) : Prop := ∀ b off, A = some ⟨b, off, none⟩ → w.heap.size ≤ b
theorem New.some_ {w : World} {b off : Nat} (h : w.heap.size ≤ b) : New w (some ⟨b, off, none⟩) := by
  rintro b' off' e
  injection e with e
  injection e with e1
  omega
theorem New.none_ (w : World) : New w none := by rintro b off e; cases e
theorem New.mono {w w' : World} {A : Option Addr} (h : New w' A) (hs : w.heap.size ≤ w'.heap.size) : New w A := fun b off e => Nat.le_trans hs (h b off e)
/-- .. in new memory -/
def RetSlN (xs : List Int) (w : World) (e : Ending) (w' : World) : Prop := ∃ A n c, e = .returned (.slice A n c) ∧ Sl w' A n c xs ∧ Below w.heap.size w w' ∧ New w A
theorem RetSlN.old {xs : List Int} {w w' : World} {e : Ending} (h : RetSlN xs w e w') : RetSl xs w e w' := by
  obtain ⟨A, n, c, he, hs, hb, _⟩ := h
  exact ⟨A, n, c, he, hs, hb⟩

/-- a slice of integers that came in, as the row's frame tells it -/
def IsRow (k : IntKind) (w : World) (a : Option Addr) (len cap : Nat) (zs : List Int) : Prop :=
  (a = none ∧ len = 0 ∧ cap = 0 ∧ zs = []) ∨
  ∃ x, a = some x ∧ len ≤ cap ∧ cap ≤ maxLen ∧ zs.length = cap ∧ (∀ i, i < zs.length → w.cell? (x.add i) = some (.int k (zs.getD i 0))) ∧ ∀ n ∈ zs, (Lit.int k n).wf = true
theorem IsRow.sl {w : World} {a : Option Addr} {len cap : Nat} {zs : List Int} (h : IsRow .u64 w a len cap zs) : Sl w a len cap (zs.take len) ∧ len ≤ maxLen := by
  rcases h with ⟨rfl, rfl, rfl, rfl⟩ | ⟨x, rfl, hl, hm, hz, hcell, hwz⟩
  · exact ⟨Sl.nil _ _ _, by unfold maxLen; omega⟩
  · refine ⟨⟨⟨by rw [List.length_take]; omega, hl, fun y hy => U_of_wf (hwz y (List.mem_of_mem_take hy))⟩, fun h0 => ?_⟩, by omega⟩
    obtain ⟨b, off, spot⟩ := x
    have hc := hcell 0 (by omega)
    have hspot : spot = none := by simpa [Addr.add] using World.cell?_spot hc
    subst hspot
    have hlt : b < w.heap.size := by
      rcases Nat.lt_or_ge b w.heap.size with h9 | h9
      · exact h9
      · exfalso
        simp [Addr.add, World.cell?, Array.getElem?_eq_none h9] at hc
    refine ⟨b, off, rfl, hlt, fun j hj => ?_⟩
    have hcj := hcell j (by omega)
    have e : ((⟨b, off, none⟩ : Addr).add j) = ⟨b, off + j, none⟩ := by
      unfold Addr.add; split
      · subst_vars; rfl
      · rfl
    rw [e] at hcj
    rw [hcj]
    simp [List.getD_eq_getElem?_getD, List.getElem?_take, hj]

end Go.Proofs.YtmoahgiklgicgaaDoor

namespace Go.Proofs.YtmoahgiklgicgaaDoor
set_option maxRecDepth 100000
open Go.RowKit
set_option linter.unusedVariables false
set_option linter.unusedSimpArgs false

set_option maxHeartbeats 2000000 in
theorem fr_half {m n : Nat} (hm : m < 18446744073709551616) (hn : 1 ≤ n) (hn2 : n ≤ 100000) (w : World) :
    Calls Tryd.prog 74 #[.int .u64 m, .int .i64 n] w fun e w' => e = .returned (.int .u64 (rdiv m (2 ^ n))) ∧ ∃ k, w' = w.drewN k := by
  by_cases hb : 64 < n
  · have H := Lib.hid (rdiv_far (m := m) (by omega) hb)
    go_enter Tryd.func74, Tryd.ntmps74
    go_wp2_with fail
    go_ret
    exact ⟨ret1 (by rw [H.out]; rfl), 0, rfl⟩
  · have hdiv : (m : Int) / 2 ^ n = ((m / 2 ^ n : Nat) : Int) := by rw [Int.natCast_ediv]; congr 1
    have h1 := Nat.div_add_mod' m (2 ^ n)
    have h2 := Nat.mod_lt m (Nat.two_pow_pos n)
    have h3 : 2 ^ n = 2 * 2 ^ (n - 1) := by rw [← Nat.pow_succ']; congr 1; omega
    have hr : rdiv m (2 ^ n) = if 2 ^ n < 2 * (m % 2 ^ n) ∨ (2 * (m % 2 ^ n) = 2 ^ n ∧ m / 2 ^ n % 2 = 1) then m / 2 ^ n + 1 else m / 2 ^ n := rfl
    have hH : 2 ^ (n - 1) < 18446744073709551616 := by
      have : 2 ^ (n - 1) < 2 ^ 64 := Nat.pow_lt_pow_right (by omega) (by omega)
      omega
    generalize m / 2 ^ n = k at *
    generalize m % 2 ^ n = r at *
    generalize rdiv m (2 ^ n) = R at *
    have hk : k ≤ m := by
      have : k * 1 ≤ k * 2 ^ n := Nat.mul_le_mul_left _ (Nat.two_pow_pos n)
      omega
    have e1 : IntKind.u64.wrap ((m : Int) - IntKind.u64.wrap ((k : Int) * 2 ^ n)) = (r : Int) := by
      have hc : (k : Int) * 2 ^ n = ((k * 2 ^ n : Nat) : Int) := by push_cast; rfl
      rw [hc, wrapU, wrapU]
      generalize k * 2 ^ n = x at *
      omega
    have e2 : IntKind.u64.wrap ((2 : Int) ^ (n - 1)) = ((2 ^ (n - 1) : Nat) : Int) := by
      have hc : (2 : Int) ^ (n - 1) = ((2 ^ (n - 1) : Nat) : Int) := by push_cast; rfl
      rw [hc, wrapU]
      omega
    have e3 : bits BinOp.and IntKind.u64 (k : Int) 1 = ((k % 2 : Nat) : Int) := by
      rw [and1 (by unfold U; omega)]; omega
    rw [h3] at h1 h2 hr
    generalize 2 ^ (n - 1) = H at *
    have hr2 : R = if H < r ∨ (r = H ∧ k % 2 = 1) then k + 1 else k := by
      rw [hr]
      have : (2 * H < 2 * r ∨ (2 * r = 2 * H ∧ k % 2 = 1)) ↔ (H < r ∨ (r = H ∧ k % 2 = 1)) := by omega
      simp only [this]
    have hkm : H < r ∨ r = H → k < 18446744073709551615 := by
      intro h9
      rcases Nat.eq_zero_or_pos k with h8 | h8
      · omega
      · have : k * (2 * 1) ≤ k * (2 * H) := Nat.mul_le_mul_left _ (by
          rcases Nat.eq_zero_or_pos H with h7 | h7
          · subst h7; simp at h2
          · omega)
        omega
    clear h1 h2 h3 hr
    rcases Nat.lt_trichotomy r H with hl | hl | hl
    · have d1 : decide ((H : Int) < r) = false := decide_eq_false (by omega)
      have d2 : ((r : Int) == H) = false := by simp; omega
      have HR := Lib.hid hr2
      clear hr2 hkm
      go_enter Tryd.func74, Tryd.ntmps74
      go_wp2_with fail
      go_region
      all_goals try go_wp2
      go_ret
      exact ⟨ret1 (by rw [HR.out, if_neg (by omega)]), 1, rfl⟩
    · subst hl
      by_cases ho : k % 2 = 1
      · have hk2 := hkm (.inr rfl)
        have HR := Lib.hid hr2
        have HO := Lib.hid ho
        rw [ho] at e3
        clear hr2 hkm ho
        go_enter Tryd.func74, Tryd.ntmps74
        go_wp2_with fail
        go_region
        all_goals try go_wp2
        go_ret
        exact ⟨ret1 (by rw [HR.out, if_pos (.inr ⟨trivial, HO.out⟩)]; omega), 1, rfl⟩
      · have ho0 : k % 2 = 0 := by omega
        have HR := Lib.hid hr2
        have HO := Lib.hid ho
        rw [ho0] at e3
        clear hr2 hkm ho ho0
        go_enter Tryd.func74, Tryd.ntmps74
        go_wp2_with fail
        go_region
        all_goals try go_wp2
        go_ret
        exact ⟨ret1 (by have h9 := HO.out; rw [HR.out, if_neg (by omega)]), 1, rfl⟩
    · have hk2 := hkm (.inl hl)
      have d1 : decide ((H : Int) < r) = true := decide_eq_true (by omega)
      have HR := Lib.hid hr2
      clear hr2 hkm
      go_enter Tryd.func74, Tryd.ntmps74
      go_wp2_with fail
      go_region
      all_goals try go_wp2
      go_ret
      exact ⟨ret1 (by rw [HR.out, if_pos (.inl hl)]; omega), 1, rfl⟩

/-- the double nearest to m * 2^e, as it is handed out -/
def RetW (v : Nat) (w : World) (x : Ending) (w' : World) : Prop := x = .returned (.int .u64 v) ∧ Below w.heap.size w w'

set_option maxHeartbeats 2000000 in
theorem fr_word (s : Bool) {m : Nat} (hm : m < 18446744073709551616) {e : Int} (he : -9223372036854775808 ≤ e) (he2 : e ≤ 9223372036854775807) (w : World) :
    Calls Tryd.prog 44 #[.bool s, .int .u64 m, .int .i64 e] w (RetW (sg s (magR m 1 e)) w) := by
  have hcl := word_clamp (m := m) (by omega) (e := e)
  obtain ⟨c, hc⟩ : ∃ c, min (max e (-2000)) 2000 = c := ⟨_, rfl⟩
  rw [hc] at hcl
  rw [← hcl]
  have hc1 : -2000 ≤ c ∧ c ≤ 2000 := by omega
  have HL := Lib.hid (limb_len (m : Int) (by unfold U; omega) w)
  rw [Int.toNat_natCast] at HL
  have hb := blen_le (n := m) (k := 64) (by omega)
  obtain ⟨low, hlow⟩ : ∃ low : Int, low = max ((blen m : Int) + c - 53) (-1074) := ⟨_, rfl⟩
  have hl1 : -1074 ≤ low ∧ low ≤ 2011 := by omega
  by_cases hlt : c < low
  · obtain ⟨k, hk⟩ : ∃ k : Nat, low - c = k := ⟨(low - c).toNat, by omega⟩
    obtain ⟨t, ht⟩ : ∃ t : Nat, low + 1074 = t := ⟨(low + 1074).toNat, by omega⟩
    obtain ⟨y1, y2, y3⟩ := word_round hlow hlt hk ht
    have hhalf := fun w1 => fr_half hm (n := k) (by omega) (by omega) w1
    rw [B52_eq] at y3
    generalize rdiv m (2 ^ k) = x at *
    have hmk := fun w1 => fb_make s (m := x) (by omega) (e := low) (by omega) (by omega) w1
    unfold RetMk at hmk
    have hv : ∀ w1, ∃ v : Nat, ∃ ok : Bool, (Calls Tryd.prog 75 #[.bool s, .int .u64 x, .int .i64 low] w1 fun z w' => z = .returned (.tuple #[.int .u64 v, .bool ok]) ∧ w1 = w') ∧ ((ok = true ∧ v = sg s (magR m 1 c)) ∨ (ok = false ∧ INF = magR m 1 c)) := by
      intro w1
      by_cases hx : ExR x 1 low
      · exact ⟨_, _, hmk w1, .inl ⟨decide_eq_true hx, by rw [mkW_yes hx, y1 hx]⟩⟩
      · exact ⟨_, _, hmk w1, .inr ⟨decide_eq_false hx, (y2 hx).symm⟩⟩
    clear y1 y2 hmk
    generalize magR m 1 c = r at *
    generalize blen m = n at *
    have HH := Lib.hid hhalf
    have HV := Lib.hid hv
    have HI := Lib.hid (fun w1 => fb_inf s w1)
    clear hhalf hv hcl ht
    go_enter Tryd.func44, Tryd.ntmps44
    go_upto_region 1 with (fail)
    go_cut [2] (fun s2 wx => s2 = .int .i64 c ∧ w = wx)
    case first =>
      by_cases h1 : e < -2000
      · go_wp2_with fail
        go_meet
        exact ⟨vint (by omega), rfl⟩
      · by_cases h2 : 2000 < e
        · have h3 : decide (2000 < e) = true := decide_eq_true h2
          go_wp2_with fail
          go_meet
          exact ⟨vint (by omega), rfl⟩
        · go_wp2_with fail
          go_meet
          exact ⟨vint (by omega), rfl⟩
    case rest =>
    obtain ⟨rfl, rfl⟩ := hcut
    clear hc
    go_upto_region 2 with (fail)
    go_cut [7] (fun s7 wx => s7 = .int .i64 low ∧ w = wx)
    case first =>
      by_cases h1 : (n : Int) + c - 53 < -1074
      · go_wp2_with fail
        refine HL.out.mono ?_
        rintro _ w' ⟨rfl, rfl⟩
        go_wp2_with fail
        go_meet
        exact ⟨vint (by omega), rfl⟩
      · go_wp2_with fail
        refine HL.out.mono ?_
        rintro _ w' ⟨rfl, rfl⟩
        go_wp2_with fail
        go_meet
        exact ⟨vint (by omega), rfl⟩
    case rest =>
    obtain ⟨rfl, rfl⟩ := hcut
    clear hlow
    go_wp2_with fail
    with_reducible refine (HH.out _).mono ?_
    rintro _ w' ⟨rfl, d, rfl⟩
    obtain ⟨v, ok, hcall, hcase⟩ := HV.out (w.drewN d)
    have hb0 := below_drewN w d
    have HC := Lib.hid hcall
    clear hcall HV HH
    generalize w.drewN d = w2 at *
    rcases hcase with ⟨rfl, rfl⟩ | ⟨rfl, rfl⟩
    · go_wp2_with fail
      with_reducible refine HC.out.mono ?_
      rintro _ w' ⟨rfl, rfl⟩
      go_wp2_with fail
      go_ret
      exact ⟨rfl, hb0⟩
    · go_wp2_with fail
      with_reducible refine HC.out.mono ?_
      rintro _ w' ⟨rfl, rfl⟩
      go_wp2_with fail
      with_reducible refine (HI.out _).mono ?_
      rintro _ w' ⟨rfl, rfl⟩
      go_wp2_with fail
      go_ret
      exact ⟨rfl, hb0⟩
  · have y2 := word_exact hlow (by omega)
    have hmk := fun w1 => fb_make s (m := m) (by omega) (e := c) (by omega) (by omega) w1
    unfold RetMk at hmk
    have hv : ∀ w1, ∃ v : Nat, ∃ ok : Bool, (Calls Tryd.prog 75 #[.bool s, .int .u64 m, .int .i64 c] w1 fun z w' => z = .returned (.tuple #[.int .u64 v, .bool ok]) ∧ w1 = w') ∧ ((ok = true ∧ v = sg s (magR m 1 c)) ∨ (ok = false ∧ INF = magR m 1 c)) := by
      intro w1
      by_cases hx : ExR m 1 c
      · exact ⟨_, _, hmk w1, .inl ⟨decide_eq_true hx, by rw [mkW_yes hx]⟩⟩
      · exact ⟨_, _, hmk w1, .inr ⟨decide_eq_false hx, (y2 hx).symm⟩⟩
    clear y2 hmk
    generalize magR m 1 c = r at *
    generalize blen m = n at *
    have HV := Lib.hid hv
    have HI := Lib.hid (fun w1 => fb_inf s w1)
    clear hv hcl
    go_enter Tryd.func44, Tryd.ntmps44
    go_upto_region 1 with (fail)
    go_cut [2] (fun s2 wx => s2 = .int .i64 c ∧ w = wx)
    case first =>
      by_cases h1 : e < -2000
      · go_wp2_with fail
        go_meet
        exact ⟨vint (by omega), rfl⟩
      · by_cases h2 : 2000 < e
        · have h3 : decide (2000 < e) = true := decide_eq_true h2
          go_wp2_with fail
          go_meet
          exact ⟨vint (by omega), rfl⟩
        · go_wp2_with fail
          go_meet
          exact ⟨vint (by omega), rfl⟩
    case rest =>
    obtain ⟨rfl, rfl⟩ := hcut
    clear hc
    go_upto_region 2 with (fail)
    go_cut [7] (fun s7 wx => s7 = .int .i64 low ∧ w = wx)
    case first =>
      by_cases h1 : (n : Int) + c - 53 < -1074
      · go_wp2_with fail
        refine HL.out.mono ?_
        rintro _ w' ⟨rfl, rfl⟩
        go_wp2_with fail
        go_meet
        exact ⟨vint (by omega), rfl⟩
      · go_wp2_with fail
        refine HL.out.mono ?_
        rintro _ w' ⟨rfl, rfl⟩
        go_wp2_with fail
        go_meet
        exact ⟨vint (by omega), rfl⟩
    case rest =>
    obtain ⟨rfl, rfl⟩ := hcut
    clear hlow
    obtain ⟨v, ok, hcall, hcase⟩ := HV.out w
    have HC := Lib.hid hcall
    clear hcall HV
    rcases hcase with ⟨rfl, rfl⟩ | ⟨rfl, rfl⟩
    · go_wp2_with fail
      with_reducible refine HC.out.mono ?_
      rintro _ w' ⟨rfl, rfl⟩
      go_wp2_with fail
      go_ret
      exact ⟨rfl, Below.refl _ _⟩
    · go_wp2_with fail
      with_reducible refine HC.out.mono ?_
      rintro _ w' ⟨rfl, rfl⟩
      go_wp2_with fail
      with_reducible refine (HI.out _).mono ?_
      rintro _ w' ⟨rfl, rfl⟩
      go_wp2_with fail
      go_ret
      exact ⟨rfl, Below.refl _ _⟩

theorem int_abs (n : Int) (h1 : -9223372036854775808 ≤ n) (h2 : n ≤ 9223372036854775807) : n.natAbs < 18446744073709551616 := by omega
set_option maxHeartbeats 1000000 in
theorem fr_int (n : Int) (h1 : -9223372036854775808 ≤ n) (h2 : n ≤ 9223372036854775807) (w : World) :
    Calls Tryd.prog 16 #[.int .i64 n] w (RetW (sg (decide (n < 0)) (magR n.natAbs 1 0)) w) := by
  have W := fun s => fr_word s (int_abs n h1 h2) (e := 0) (by omega) (by omega) w
  by_cases hn : n < 0
  · have e1 : IntKind.u64.wrap (-(IntKind.u64.wrap n)) = ((n.natAbs : Nat) : Int) := by rw [wrapU, wrapU]; omega
    have d : decide (n < 0) = true := decide_eq_true hn
    rw [d]
    have HW := Lib.hid (W true)
    generalize n.natAbs = a at *
    clear W
    go_enter Tryd.func16, Tryd.ntmps16
    go_wp2_with fail
    with_reducible refine HW.out.mono ?_
    rintro _ w' ⟨rfl, b1⟩
    go_wp2_with fail
    go_ret
    exact ⟨rfl, b1⟩
  · have d : decide (n < 0) = false := decide_eq_false hn
    rw [d]
    have HW := Lib.hid (W false)
    obtain ⟨a, rfl⟩ := Int.eq_ofNat_of_zero_le (show 0 ≤ n by omega)
    rw [Int.natAbs_natCast] at *
    clear W
    go_enter Tryd.func16, Tryd.ntmps16
    go_wp2_with fail
    with_reducible refine HW.out.mono ?_
    rintro _ w' ⟨rfl, b1⟩
    go_wp2_with fail
    go_ret
    exact ⟨rfl, b1⟩

end Go.Proofs.YtmoahgiklgicgaaDoor

namespace Go.Proofs.YtmoahgiklgicgaaDoor
set_option maxRecDepth 100000
open Go.RowKit
set_option linter.unusedVariables false
set_option linter.unusedSimpArgs false

set_option maxHeartbeats 400000 in
set_option maxRecDepth 100000 in
theorem div_half (r x d : Nat) (hx : x < 4294967296) (hd : d < 18446744073709551616) (hd2 : 9223372036854775808 ≤ d) (hr : r < d) (w : World) :
    Calls Tryd.prog 91 #[.int .u64 r, .int .u64 x, .int .u64 d] w fun e w' => e = .returned (.tuple #[.int .u64 (dhq r x d), .int .u64 (dhr r x d)]) ∧ ∃ n, w' = w.drewN n := by
  obtain ⟨d1, hd1⟩ : ∃ d1, d1 = d / 4294967296 := ⟨_, rfl⟩
  obtain ⟨d0, hd0⟩ : ∃ d0, d0 = d % 4294967296 := ⟨_, rfl⟩
  have HD : Hid (d = d1 * 4294967296 + d0) := by show d = _; omega
  have l1 : 2147483648 ≤ d1 := by omega
  have l1' : d1 < 4294967296 := by omega
  have l0 : d0 < 4294967296 := by omega
  have e1 : (d : Int) / 4294967296 = (d1 : Int) := by omega
  have e0 : bits BinOp.and IntKind.u64 (d : Int) 4294967295 = (d0 : Int) := by rw [and32 (by unfold U; omega)]; omega
  have hz : ((d1 : Int) == 0) = false := by simp; omega
  have HR := Lib.hid hr
  clear hd1 hd0 hr
  go_enter Tryd.func91, Tryd.ntmps91
  go_wp2
  go_region
  go_wp2
  go_loop [10, 11] (fun x1 y1 => ∃ (q s : Nat), x1 = .int .u64 q ∧ y1 = .int .u64 s ∧ DhAt r x d1 d0 q s) (fun x1 _ => mes x1)
  case atStart =>
    have hq : r / d1 ≤ r := Nat.div_le_self _ _
    have hr' := HR.out
    exact ⟨r / d1, r % d1, vint (by rw [← Int.natCast_ediv, wrapU]; generalize r / d1 = q at *; omega), vint (by rw [Int.natCast_emod]), dhAt_0 hx l1 l1' l0 (by rw [← HD.out]; exact HR.out)⟩
  case round =>
    obtain ⟨q, s, rfl, rfl, hk⟩ := hrel
    have hp := dhAt_prod l0 hk
    have hs : s < 4294967296 := hk.2.2.2
    have hq : q ≤ 4294967297 := hk.2.2.1
    obtain ⟨p, ep⟩ : ∃ p : Int, (q : Int) * (d0 : Int) = p := ⟨_, rfl⟩
    obtain ⟨y, ey⟩ : ∃ y : Int, (s : Int) * 4294967296 = y := ⟨_, rfl⟩
    have hp' : ((q * d0 : Nat) : Int) = p := by rw [Int.natCast_mul]; exact ep
    have hp1 : p ≤ 18446744073709551615 := by omega
    have hp0 : 0 ≤ p := by omega
    have hy0 : 0 ≤ y := by omega
    have hy1 : y ≤ 18446744073709551615 := by omega
    obtain ⟨z, ez⟩ : ∃ z : Int, bits BinOp.or IntKind.u64 y (x : Int) = z := ⟨_, rfl⟩
    have hz' : z = y + x := by rw [← ez]; exact or32 (by unfold U; omega) (by omega) (by omega) (by omega)
    by_cases ht : s * 4294967296 + x < q * d0
    · have ht' : z < p := by omega
      have hq1 : 0 < q := (dhAt_next l1 hk ht).1
      by_cases hb : s + d1 < 4294967296
      · have L := dhAt_more l1 hk ht hb
        obtain ⟨t, et⟩ : ∃ t : Int, (s : Int) + d1 = t := ⟨_, rfl⟩
        have hb' : t < 4294967296 := by omega
        have hb0 : 0 ≤ t := by omega
        have HL := Lib.hid L
        clear ht hp hb L hp' hz' hs hy0
        go_wp2
        go_round
        case rel => exact ⟨q - 1, s + d1, vint (by omega), vint (by omega), HL.out⟩
        case measure => exact mes_lt (by omega) (by omega)
      · have L := dhAt_break l1 l0 hk ht (by omega)
        have HL := Lib.hid L
        have hb' : 4294967296 ≤ (s : Int) + d1 := by omega
        clear L ht hp hb hp' hz'
        go_wp2
        go_ret2
        refine ⟨ret2 ?_ ?_, 1, rfl⟩
        · rw [← show ((q - 1 : Nat) : Int) = (q : Int) - 1 by omega, HL.out, ← HD.out]; rfl
        · rw [← show ((q - 1 : Nat) : Int) = (q : Int) - 1 by omega, HL.out, ← HD.out]
          exact dh_rest hd (by omega)
    · have L := dhAt_stop l1 hk (by omega)
      have HL := Lib.hid L
      clear L
      have ht' : p ≤ z := by omega
      clear ht hp hp' hz'
      go_wp2
      go_ret2
      refine ⟨ret2 ?_ ?_, 1, rfl⟩
      · rw [HL.out, ← HD.out]; rfl
      · rw [HL.out, ← HD.out]
        exact dh_rest hd (by omega)

set_option maxHeartbeats 400000 in
theorem limb_div_no (h l d : Int) (hd : d ≤ h) (w : World) :
    Calls Tryd.prog 86 #[.int .u64 h, .int .u64 l, .int .u64 d] w fun e w' => e = .returned (.tuple #[.int .u64 0, .int .u64 0, .bool false]) ∧ w = w' := by
  go_enter Tryd.func86, Tryd.ntmps86
  go_wp2
  go_ret3
  exact ⟨rfl, rfl⟩

set_option maxHeartbeats 400000 in
theorem limb_div_yes (h l d : Int) (hh : U h) (hl : U l) (hd' : U d) (hd : h < d) (w : World) :
    Calls Tryd.prog 86 #[.int .u64 h, .int .u64 l, .int .u64 d] w fun e w' => e = .returned (.tuple #[.int .u64 ((h * 18446744073709551616 + l) / d), .int .u64 ((h * 18446744073709551616 + l) % d), .bool true]) ∧ ∃ n, w' = w.drewN n := by
  obtain ⟨H, rfl⟩ := Int.eq_ofNat_of_zero_le hh.nn
  obtain ⟨L, rfl⟩ := Int.eq_ofNat_of_zero_le hl.nn
  obtain ⟨D, rfl⟩ := Int.eq_ofNat_of_zero_le hd'.nn
  have hD : D < 18446744073709551616 := by unfold U at hd'; omega
  have hL : L < 18446744073709551616 := by unfold U at hl; omega
  obtain ⟨s, D', T, M, M1, M0, Q1, R1, Q0, R0, ⟨es, hs64, f1, f2, f3, g3, g4, l1, l0, g1, g2⟩, eD, eT, eM, eM1, eM0, eQ1, eR1, eQ0, eR0, eQ, eR⟩ := div_setup (H := H) (L := L) (by omega) hL hD
  have EQ := Lib.hid eQ
  have ER := Lib.hid eR
  clear eQ eR
  go_enter Tryd.func86, Tryd.ntmps86
  go_wp2_with (go_at_call 47; refine (limb_len _ hd' _).mono ?_; rintro e w' ⟨rfl, rfl⟩)
  go_region
  go_wp2_with fail
  refine (div_half T M1 D' l1 f1 f2 f3 _).mono ?_
  rintro e w1 ⟨rfl, n1, rfl⟩
  go_wp2_with fail
  refine (div_half R1 M0 D' l0 f1 f2 g3 _).mono ?_
  rintro e w1 ⟨rfl, n2, rfl⟩
  go_wp2_with fail
  go_region
  go_wp2
  go_ret3
  exact ⟨ret3 EQ.out ER.out rfl, 1 + n1 + n2 + 1, rfl⟩

end Go.Proofs.YtmoahgiklgicgaaDoor

namespace Go.Proofs.YtmoahgiklgicgaaDoor
set_option maxRecDepth 100000
open Go.RowKit
set_option linter.unusedVariables false
set_option linter.unusedSimpArgs false

/-- from place k on a list has zeros alone -/
def ZeroFrom (xs : List Int) (k : Nat) : Prop := ∀ j, k ≤ j → xs.getD j 0 = 0
theorem zeroFrom_len (xs : List Int) : ZeroFrom xs xs.length := fun j hj => by rw [List.getD_eq_getElem?_getD, List.getElem?_eq_none hj]; rfl
theorem ZeroFrom.step {xs : List Int} {k : Nat} (h : ZeroFrom xs (k + 1)) (h0 : xs.getD k 0 = 0) : ZeroFrom xs k := fun j hj => by
  rcases Nat.lt_or_ge k j with hl | hl
  · exact h j hl
  · rw [show j = k by omega]; exact h0

set_option maxHeartbeats 400000 in
theorem ref_size {w : World} {A : Option Addr} {n c : Nat} {xs : List Int} (h : Sl w A n c xs) (hn : n ≤ 1000000000) :
    Calls Tryd.prog 81 #[.slice A n c] w fun e w' => e = .returned (.int .i64 (sz xs)) ∧ w = w' := by
  go_enter Tryd.func81, Tryd.ntmps81
  go_wp2
  go_loop [3] (fun i => ∃ k : Nat, k ≤ n ∧ i = .int .i64 k ∧ ZeroFrom xs k) (fun i => mes i)
  case atStart => exact ⟨n, Nat.le_refl _, rfl, by rw [h.len]; exact zeroFrom_len xs⟩
  case round =>
    obtain ⟨k, hk, rfl, hz⟩ := hrel
    cases k with
    | zero =>
      go_wp2
      go_ret
      exact ⟨ret1 (by rw [sz_unique xs 0 hz (.inl rfl)]; rfl), rfl⟩
    | succ k =>
      obtain ⟨b, off, rfl, hb, hc⟩ := h.at_ (k := k) (by omega)
      obtain ⟨z, hz1⟩ : ∃ z, xs.getD k 0 = z := ⟨_, rfl⟩
      have hcell := hc k (by omega)
      rw [hz1] at hcell
      clear hc
      have HZ := Lib.hid hz1
      clear hz1
      by_cases h0 : z = 0
      · subst h0
        go_wp2
        go_round
        case rel => exact ⟨k, by omega, by go_num, hz.step HZ.out⟩
        case measure => exact mes_lt (by omega) (by omega)
      · have h0' : (z == 0) = false := by simpa using h0
        go_wp2
        go_ret
        exact ⟨ret1 (by rw [sz_unique xs (k + 1) hz (.inr (by rw [Nat.add_sub_cancel, HZ.out]; exact h0))]; omega), rfl⟩

/-- word i of a list that is continued by zeros; i not negative -/
def wd (xs : List Int) (i : Int) : Int := xs.getD i.toNat 0
theorem wd_nat (xs : List Int) (i : Nat) : wd xs i = xs.getD i 0 := by unfold wd; rw [Int.toNat_natCast]
theorem wd_U {xs : List Int} (h : ∀ x ∈ xs, U x) (i : Int) : U (wd xs i) := by
  have := (Dg_U h).at_ W_pos i.toNat
  unfold wd U; unfold W at this; omega

set_option maxHeartbeats 400000 in
theorem ref_at {w : World} {A : Option Addr} {n c : Nat} {xs : List Int} (h : Sl w A n c xs) (hn : n ≤ 1000000000) (i : Int) (hi : 0 ≤ i) :
    Calls Tryd.prog 84 #[.slice A n c, .int .i64 i] w fun e w' => e = .returned (.int .u64 (wd xs i)) ∧ w = w' := by
  obtain ⟨k, rfl⟩ := Int.eq_ofNat_of_zero_le hi
  by_cases hk : k < n
  · obtain ⟨b, off, rfl, hb, hc⟩ := h.at_ hk
    have hcell := hc k hk
    rw [← wd_nat] at hcell
    clear hc
    go_enter Tryd.func84, Tryd.ntmps84
    go_wp2
    go_ret
    exact ⟨rfl, rfl⟩
  · go_enter Tryd.func84, Tryd.ntmps84
    go_wp2
    go_ret
    exact ⟨ret1 (by rw [wd_nat, List.getD_eq_getElem?_getD, List.getElem?_eq_none (by have := h.len; omega)]; rfl), rfl⟩

theorem cut_sl {w : World} {A : Option Addr} {n c : Nat} {xs : List Int} (h : Sl w A n c xs) : Sl w A (sz xs) c (words (val xs)) := by
  rw [words_val (Dg_U h.us)]
  exact h.take (by rw [h.len]; exact sz_le xs)

def word1 (xs : List Int) : Int := if sz xs > 1 then 0 else xs.getD 0 0
set_option maxHeartbeats 1000000 in
theorem ref_cmp {w : World} {A A' : Option Addr} {n n' c c' : Nat} {xs ys : List Int} (h : Sl w A n c xs) (h' : Sl w A' n' c' ys) (hn : n ≤ 1000000000) (hn' : n' ≤ 1000000000) :
    Calls Tryd.prog 64 #[.slice A n c, .slice A' n' c'] w fun e w' => e = .returned (.int .i64 (cmpN (val xs) (val ys))) ∧ w = w' := by
  have hs : sz xs ≤ n := by rw [h.len]; exact sz_le xs
  have hs' : sz ys ≤ n' := by rw [h'.len]; exact sz_le ys
  rcases Nat.lt_or_ge n n' with hle | hle
  · have h1 : sz xs ≤ n' := by omega
    have h2 : sz ys ≤ n' := by omega
    have H1 := Lib.hid h1
    have H2 := Lib.hid h2
    clear h1 h2 hs hs'
    go_enter Tryd.func64, Tryd.ntmps64
    go_wp2_with fail
    go_loop [6] (fun i => ∃ j : Nat, j ≤ n' ∧ i = .int .i64 ((j : Int) - 1) ∧ SameFrom xs ys j) (fun i => (intOf i + 1).toNat)
    case atStart => exact ⟨n', by omega, rfl, sameFrom_top H1.out H2.out⟩
    case round =>
      obtain ⟨j, hj, rfl, hz⟩ := hrel
      have HZ := Lib.hid hz
      cases j with
      | zero =>
        clear hz
        go_wp2
        go_ret
        exact ⟨ret1 (by rw [sameFrom_0 HZ.out, cmpN_eq]), rfl⟩
      | succ j =>
        clear hz
        have ej : ((j + 1 : Nat) : Int) - 1 = (j : Int) := by omega
        have g1 := ref_at h hn (j : Int) (by omega)
        have g2 := ref_at h' hn' (j : Int) (by omega)
        obtain ⟨x, hx⟩ : ∃ x, wd xs j = x := ⟨_, rfl⟩
        obtain ⟨y, hy⟩ : ∃ y, wd ys j = y := ⟨_, rfl⟩
        rw [hx] at g1
        rw [hy] at g2
        have G1 := Lib.hid g1
        have G2 := Lib.hid g2
        have HX := Lib.hid hx
        have HY := Lib.hid hy
        clear g1 g2 hx hy
        rcases Int.lt_trichotomy x y with hxy | hxy | hxy
        · go_wp2_with fail
          refine G1.out.mono ?_
          rintro e w' ⟨rfl, rfl⟩
          go_wp2_with fail
          refine G2.out.mono ?_
          rintro e w' ⟨rfl, rfl⟩
          go_wp2_with fail
          go_ret
          exact ⟨ret1 (by rw [cmpN_lt (val_lt_of_drop (Dg_U h.us) j (drop_lt (Dg_U h.us) HZ.out (by rw [← wd_nat, ← wd_nat, HX.out, HY.out]; exact hxy)))]), rfl⟩
        · subst hxy
          go_wp2_with fail
          refine G1.out.mono ?_
          rintro e w' ⟨rfl, rfl⟩
          go_wp2_with fail
          refine G2.out.mono ?_
          rintro e w' ⟨rfl, rfl⟩
          go_wp2_with fail
          go_round
          case rel => exact ⟨j, by omega, by go_num, drop_eq HZ.out (by rw [← wd_nat, ← wd_nat, HX.out, HY.out])⟩
          case measure => simp [intOf]
        · go_wp2_with fail
          refine G1.out.mono ?_
          rintro e w' ⟨rfl, rfl⟩
          go_wp2_with fail
          refine G2.out.mono ?_
          rintro e w' ⟨rfl, rfl⟩
          go_wp2_with fail
          go_ret
          exact ⟨ret1 (by rw [cmpN_gt (val_lt_of_drop (Dg_U h'.us) j (drop_lt (Dg_U h'.us) HZ.out.symm (by rw [← wd_nat, ← wd_nat, HX.out, HY.out]; exact hxy)))]), rfl⟩
  · have h1 : sz xs ≤ n := by omega
    have h2 : sz ys ≤ n := by omega
    have H1 := Lib.hid h1
    have H2 := Lib.hid h2
    clear h1 h2 hs hs'
    go_enter Tryd.func64, Tryd.ntmps64
    go_wp2_with fail
    go_loop [6] (fun i => ∃ j : Nat, j ≤ n ∧ i = .int .i64 ((j : Int) - 1) ∧ SameFrom xs ys j) (fun i => (intOf i + 1).toNat)
    case atStart => exact ⟨n, by omega, rfl, sameFrom_top H1.out H2.out⟩
    case round =>
      obtain ⟨j, hj, rfl, hz⟩ := hrel
      have HZ := Lib.hid hz
      cases j with
      | zero =>
        clear hz
        go_wp2
        go_ret
        exact ⟨ret1 (by rw [sameFrom_0 HZ.out, cmpN_eq]), rfl⟩
      | succ j =>
        clear hz
        have ej : ((j + 1 : Nat) : Int) - 1 = (j : Int) := by omega
        have g1 := ref_at h hn (j : Int) (by omega)
        have g2 := ref_at h' hn' (j : Int) (by omega)
        obtain ⟨x, hx⟩ : ∃ x, wd xs j = x := ⟨_, rfl⟩
        obtain ⟨y, hy⟩ : ∃ y, wd ys j = y := ⟨_, rfl⟩
        rw [hx] at g1
        rw [hy] at g2
        have G1 := Lib.hid g1
        have G2 := Lib.hid g2
        have HX := Lib.hid hx
        have HY := Lib.hid hy
        clear g1 g2 hx hy
        rcases Int.lt_trichotomy x y with hxy | hxy | hxy
        · go_wp2_with fail
          refine G1.out.mono ?_
          rintro e w' ⟨rfl, rfl⟩
          go_wp2_with fail
          refine G2.out.mono ?_
          rintro e w' ⟨rfl, rfl⟩
          go_wp2_with fail
          go_ret
          exact ⟨ret1 (by rw [cmpN_lt (val_lt_of_drop (Dg_U h.us) j (drop_lt (Dg_U h.us) HZ.out (by rw [← wd_nat, ← wd_nat, HX.out, HY.out]; exact hxy)))]), rfl⟩
        · subst hxy
          go_wp2_with fail
          refine G1.out.mono ?_
          rintro e w' ⟨rfl, rfl⟩
          go_wp2_with fail
          refine G2.out.mono ?_
          rintro e w' ⟨rfl, rfl⟩
          go_wp2_with fail
          go_round
          case rel => exact ⟨j, by omega, by go_num, drop_eq HZ.out (by rw [← wd_nat, ← wd_nat, HX.out, HY.out])⟩
          case measure => simp [intOf]
        · go_wp2_with fail
          refine G1.out.mono ?_
          rintro e w' ⟨rfl, rfl⟩
          go_wp2_with fail
          refine G2.out.mono ?_
          rintro e w' ⟨rfl, rfl⟩
          go_wp2_with fail
          go_ret
          exact ⟨ret1 (by rw [cmpN_gt (val_lt_of_drop (Dg_U h'.us) j (drop_lt (Dg_U h'.us) HZ.out.symm (by rw [← wd_nat, ← wd_nat, HX.out, HY.out]; exact hxy)))]), rfl⟩

end Go.Proofs.YtmoahgiklgicgaaDoor
