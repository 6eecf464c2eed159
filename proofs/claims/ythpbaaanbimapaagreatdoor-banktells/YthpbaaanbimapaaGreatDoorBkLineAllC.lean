/-
  Fail, Mark, Ops, Tie, and numbers of what a bank holds; a bank that is none. Conditions: as each lemma says.
-/
import Derived.Test.YthpbaaanbimapaaGreatDoorFsMathAllC
import Derived.Test.YthpbaaanbimapaaGreatDoorZOwnAllC
namespace Go.Proofs.YthpbaaanbimapaaGreatDoor
set_option maxRecDepth 100000
open Go.RowKit
set_option linter.unusedVariables false
set_option linter.unusedSimpArgs false

theorem ops_all {op : Int} (h : 3 ≤ op ∧ op ≤ 10) : op = 3 ∨ op = 4 ∨ op = 5 ∨ op = 6 ∨ op = 7 ∨ op = 8 ∨ op = 9 ∨ op = 10 := by omega
theorem raw_op {is v : List Rat} {op a b : Int} {y : Rat} (h : 3 ≤ op ∧ op ≤ 10) (hy : arity op = 2 → y = v.getD b.toNat 0) : raw is [] ⟨op, a, b, nilQ⟩ v = exOp op (v.getD a.toNat 0) y := by
  unfold exOp
  rcases ops_all h with rfl | rfl | rfl | rfl | rfl | rfl | rfl | rfl
  · rw [raw_neg, raw_neg]; rfl
  · rw [raw_add, raw_add, hy (by decide)]; rfl
  · rw [raw_sub, raw_sub, hy (by decide)]; rfl
  · rw [raw_mul, raw_mul, hy (by decide)]; rfl
  · rw [hy (by decide)]
    by_cases h0 : v.getD b.toNat 0 = 0
    · rw [raw_div_no h0, raw_div_no (by exact h0)]
    · rw [raw_div h0, raw_div (by exact h0)]; rfl
  · rw [raw_form_no (by decide) (by decide), raw_form_no (by decide) (by decide)]
  · rw [raw_form_no (by decide) (by decide), raw_form_no (by decide) (by decide)]
  · rw [raw_form_no (by decide) (by decide), raw_form_no (by decide) (by decide)]
theorem flv_op {ws v : List Nat} {op a b : Int} {y : Nat} (h : 3 ≤ op ∧ op ≤ 10) (hy : arity op = 2 → y = v.getD b.toNat 0) : flv ws ⟨op, a, b, nilQ⟩ v = flOp op (v.getD a.toNat 0) y := by
  unfold flOp
  rcases ops_all h with rfl | rfl | rfl | rfl | rfl | rfl | rfl | rfl
  · rw [flv_3, flv_3]; rfl
  · rw [flv_4, flv_4, hy (by decide)]; rfl
  · rw [flv_5, flv_5, hy (by decide)]; rfl
  · rw [flv_6, flv_6, hy (by decide)]; rfl
  · rw [flv_7, flv_7, hy (by decide)]; rfl
  · rw [flv_8, flv_8]; rfl
  · rw [flv_9, flv_9]; rfl
  · rw [flv_10, flv_10]; rfl

/-- the inputs that acts ask for -/
def inActs (l : List PA) : List PA := l.filter fun a => decide (a.kind = 0)
def isOf (l : List PA) : List Rat := (inActs l).map fun a => (a.p : Rat) / (a.q : Rat)
def wsOf (l : List PA) : List Nat := (inActs l).map fun a => a.w
theorem isOf_len (l : List PA) : (isOf l).length = (inActs l).length := by unfold isOf; rw [List.length_map]
theorem wsOf_len (l : List PA) : (wsOf l).length = (inActs l).length := by unfold wsOf; rw [List.length_map]
theorem part_at (l : List PA) {k : Nat} {a : PA} (h : l[k]? = some a) : l = l.take k ++ a :: l.drop (k + 1) := by
  have hk : k < l.length := by
    rcases Nat.lt_or_ge k l.length with h1 | h1
    · exact h1
    · rw [List.getElem?_eq_none h1] at h; cases h
  rw [List.getElem?_eq_getElem hk] at h
  injection h with h
  conv => lhs; rw [← List.take_append_drop k l, List.drop_eq_getElem_cons hk, h]
theorem inActs_at (l : List PA) {k : Nat} {a : PA} (h : l[k]? = some a) (h0 : a.kind = 0) : (inActs l)[(inActs (l.take k)).length]? = some a := by
  have e : inActs l = inActs (l.take k) ++ (a :: inActs (l.drop (k + 1))) := by
    conv => lhs; rw [part_at l h]
    unfold inActs
    rw [List.filter_append, List.filter_cons, if_pos (by simp [h0])]
  rw [e, List.getElem?_append_right (Nat.le_refl _), Nat.sub_self]
  rfl
theorem inActs_next (l : List PA) {k : Nat} {a : PA} (h : l[k]? = some a) : (inActs (l.take (k + 1))).length = (inActs (l.take k)).length + (if a.kind = 0 then 1 else 0) := by
  rw [List.take_add_one, h]
  unfold inActs
  rw [List.filter_append, List.length_append]
  congr 1
  by_cases h0 : a.kind = 0
  · rw [if_pos h0]; simp [h0]
  · rw [if_neg h0]; simp [h0]

/-- the numbers, the doubles of scalars -/
def ratsOf (v : List PV) : List Rat := v.map fun x => x.r.getD 0
def bitsOf (v : List PV) : List Nat := v.map fun x => x.w
theorem ratsOf_at (v : List PV) {i : Nat} (h : i < v.length) : (ratsOf v).getD i 0 = (v.getD i PV.zero).r.getD 0 := by
  unfold ratsOf
  rw [List.getD_eq_getElem?_getD, List.getElem?_map, List.getElem?_eq_getElem h, List.getD_eq_getElem?_getD, List.getElem?_eq_getElem h]
  rfl
theorem bitsOf_at (v : List PV) {i : Nat} (h : i < v.length) : (bitsOf v).getD i 0 = (v.getD i PV.zero).w := by
  unfold bitsOf
  rw [List.getD_eq_getElem?_getD, List.getElem?_map, List.getElem?_eq_getElem h, List.getD_eq_getElem?_getD, List.getElem?_eq_getElem h]
  rfl

/-- a bank of mode Exact or Float and one of mode Line behind the same acts -/
structure Sim (M : List Bool) (is : List Rat) (ws : List Nat) (b c : PB) (x y : PR) : Prop where
  bm : b.mode = 0 ∨ b.mode = 1
  be : b.err = 0
  cm : c.mode = 2
  ce : c.err = 0
  ca : c.asks = M
  cu : c.used = b.met.length
  ct : c.met = b.met
  co : c.ops = b.ops
  hx : x.vals.length = c.prog.length
  hy : y.vals.length = c.prog.length
  ht : y.truth = x.truth
  rf : ∀ i, i < c.prog.length → (y.vals.getD i PV.zero).f = i
  ft : ∀ i, i < c.prog.length → fits vq nq (c.prog.getD i PI.nil) i
  v0 : b.mode = 0 → ∀ i, i < c.prog.length → ∃ X, x.vals.getD i PV.zero = ⟨some X, 0, 0⟩ ∧ raw is [] (c.prog.getD i PI.nil) (ratsOf (x.vals.take i)) = .ok X
  v1 : b.mode = 1 → ∀ i, i < c.prog.length → (x.vals.getD i PV.zero).w = flv ws (c.prog.getD i PI.nil) (bitsOf (x.vals.take i)) ∧ ((c.prog.getD i PI.nil).op = 1 → (c.prog.getD i PI.nil).a.toNat < ws.length)
section
variable {M : List Bool} {is : List Rat} {ws : List Nat} {b c : PB} {x y : PR}
/-- a scalar more, and an instruction more -/
theorem Sim.push (S : Sim M is ws b c x y) (hl : c.prog.length < 65536) {z : PI} {v : PV} {di dn : Nat} (hf : fits vq nq z c.prog.length)
    (h0 : b.mode = 0 → ∃ X, v = ⟨some X, 0, 0⟩ ∧ raw is [] z (ratsOf x.vals) = .ok X) (h1 : b.mode = 1 → v.w = flv ws z (bitsOf x.vals) ∧ (z.op = 1 → z.a.toNat < ws.length)) :
    Sim M is ws { b with ops := b.ops + dn } (c.emit z di dn).2 (x.put v) (y.put (c.emit z di dn).1) := by
  have ee : c.emit z di dn = (⟨none, 0, c.prog.length⟩, { c with prog := c.prog ++ [z], ins := c.ins + di, ops := c.ops + dn }) := by unfold PB.emit; rw [if_neg (by omega)]
  rw [ee]
  have hln : (c.prog ++ [z]).length = c.prog.length + 1 := by rw [List.length_append]; rfl
  refine ⟨S.bm, S.be, S.cm, S.ce, S.ca, S.cu, S.ct, by show c.ops + dn = b.ops + dn; rw [S.co], ?_, ?_, S.ht, ?_, ?_, ?_, ?_⟩
  · show (x.vals ++ [v]).length = (c.prog ++ [z]).length
    rw [hln, List.length_append, S.hx]; rfl
  · show (y.vals ++ [_]).length = (c.prog ++ [z]).length
    rw [hln, List.length_append, S.hy]; rfl
  · intro i hi
    have hi' : i < c.prog.length + 1 := by rw [← hln]; exact hi
    show ((y.vals ++ [(⟨none, 0, c.prog.length⟩ : PV)]).getD i PV.zero).f = i
    rcases Nat.lt_or_eq_of_le (Nat.le_of_lt_succ hi') with g | g
    · rw [getD_app_left _ _ (by rw [S.hy]; exact g)]; exact S.rf i g
    · rw [getD_app_end _ _ (by rw [S.hy, g])]
      exact congrArg (fun n : Nat => (n : Int)) g.symm
  · intro i hi
    have hi' : i < c.prog.length + 1 := by rw [← hln]; exact hi
    show fits vq nq ((c.prog ++ [z]).getD i PI.nil) i
    rcases Nat.lt_or_eq_of_le (Nat.le_of_lt_succ hi') with g | g
    · rw [getD_app_left _ _ g]; exact S.ft i g
    · rw [getD_app_end _ _ g.symm, g]; exact hf
  · intro hm i hi
    have hi' : i < c.prog.length + 1 := by rw [← hln]; exact hi
    show ∃ X, (x.vals ++ [v]).getD i PV.zero = _ ∧ raw is [] ((c.prog ++ [z]).getD i PI.nil) (ratsOf ((x.vals ++ [v]).take i)) = _
    rw [List.take_append_of_le_length (by rw [S.hx]; omega)]
    rcases Nat.lt_or_eq_of_le (Nat.le_of_lt_succ hi') with g | g
    · rw [getD_app_left _ _ g, getD_app_left _ _ (by rw [S.hx]; exact g)]; exact S.v0 hm i g
    · rw [getD_app_end _ _ g.symm, getD_app_end _ _ (by rw [S.hx, g]), g, ← S.hx, List.take_length]; exact h0 hm
  · intro hm i hi
    have hi' : i < c.prog.length + 1 := by rw [← hln]; exact hi
    show ((x.vals ++ [v]).getD i PV.zero).w = flv ws ((c.prog ++ [z]).getD i PI.nil) (bitsOf ((x.vals ++ [v]).take i)) ∧ (((c.prog ++ [z]).getD i PI.nil).op = 1 → ((c.prog ++ [z]).getD i PI.nil).a.toNat < ws.length)
    rw [List.take_append_of_le_length (by rw [S.hx]; omega)]
    rcases Nat.lt_or_eq_of_le (Nat.le_of_lt_succ hi') with g | g
    · rw [getD_app_left _ _ g, getD_app_left _ _ (by rw [S.hx]; exact g)]; exact S.v1 hm i g
    · rw [getD_app_end _ _ g.symm, getD_app_end _ _ (by rw [S.hx, g]), g, ← S.hx, List.take_length]; exact h1 hm
/-- a comparison more -/
theorem Sim.say (S : Sim M is ws b c x y) (hl : b.met.length < 65536) {t tie : Bool} (hM : ∃ l, M = (b.met ++ [t]) ++ l) {u v : PV} (hu : c.wrote u.f = true) (hv : c.wrote v.f = true) :
    Sim M is ws { b with met := b.met ++ [t], tie := tie } (c.less u v).2 (x.say t) (y.say (c.less u v).1) := by
  obtain ⟨l, hM⟩ := hM
  have hlen : b.met.length < M.length := by
    rw [hM, List.length_append, List.length_append]
    show b.met.length < b.met.length + 1 + l.length
    omega
  have hat : M.getD b.met.length false = t := by
    rw [hM, List.append_assoc, List.getD_eq_getElem?_getD, List.getElem?_append_right (Nat.le_refl _), Nat.sub_self]; rfl
  have ee : c.less u v = (t, { c with used := c.used + 1, met := c.met ++ [t] }) := by
    unfold PB.less
    rw [if_neg (by rw [S.ce]; simp), if_neg (by rw [S.ct]; omega), if_pos S.cm, if_neg (by rw [hu]; simp), if_neg (by rw [hv]; simp), if_neg (by rw [S.ca, S.cu]; omega), S.ca, S.cu, hat]
  rw [ee]
  refine ⟨S.bm, S.be, S.cm, S.ce, S.ca, ?_, ?_, S.co, S.hx, S.hy, ?_, S.rf, S.ft, S.v0, S.v1⟩
  · show c.used + 1 = (b.met ++ [t]).length
    rw [S.cu, List.length_append]; rfl
  · show c.met ++ [t] = b.met ++ [t]
    rw [S.ct]
  · show y.truth ++ [t] = x.truth ++ [t]
    rw [S.ht]
end
theorem back_in (r : PR) {n : Int} (h1 : 1 ≤ n) (h2 : n ≤ r.vals.length) : r.back n = r.vals.getD (r.vals.length - n.toNat) PV.zero ∧ r.vals.length - n.toNat < r.vals.length := by
  refine ⟨?_, by omega⟩
  unfold PR.back
  rw [if_neg (by omega)]
theorem words_sz (v : Nat) : sz (words v) = (words v).length := by
  have e := words_trim v
  unfold trim at e
  have e2 := congrArg List.length e
  rw [List.length_take] at e2
  have := sz_le (words v)
  omega
theorem qOf_right (X : Rat) : vq (qOf X) = true := by
  unfold vq qOf rightB
  refine decide_eq_true ⟨words_sz _, words_sz _, ?_, ?_, ?_⟩
  · rw [val_words]; exact den_ne X
  · rintro ⟨h1, h2⟩
    rw [val_words] at h2
    rw [neg_zero_ X h2] at h1
    cases h1
  · rw [val_words, val_words]; exact gcd_num_den X

theorem isOf_at {l : List PA} {k : Nat} {a : PA} (h : l[k]? = some a) (h0 : a.kind = 0) : (isOf l).getD (inActs (l.take k)).length 0 = (a.p : Rat) / (a.q : Rat) ∧ (inActs (l.take k)).length < (isOf l).length := by
  have e := inActs_at l h h0
  have hlt : (inActs (l.take k)).length < (inActs l).length := by
    rcases Nat.lt_or_ge (inActs (l.take k)).length (inActs l).length with g | g
    · exact g
    · rw [List.getElem?_eq_none g] at e; cases e
  refine ⟨?_, by rw [isOf_len]; exact hlt⟩
  unfold isOf
  rw [List.getD_eq_getElem?_getD, List.getElem?_map, e]
  rfl
theorem wsOf_at {l : List PA} {k : Nat} {a : PA} (h : l[k]? = some a) (h0 : a.kind = 0) : (wsOf l).getD (inActs (l.take k)).length 0 = a.w ∧ (inActs (l.take k)).length < (wsOf l).length := by
  have e := inActs_at l h h0
  have hlt : (inActs (l.take k)).length < (inActs l).length := by
    rcases Nat.lt_or_ge (inActs (l.take k)).length (inActs l).length with g | g
    · exact g
    · rw [List.getElem?_eq_none g] at e; cases e
  refine ⟨?_, by rw [wsOf_len]; exact hlt⟩
  unfold wsOf
  rw [List.getD_eq_getElem?_getD, List.getElem?_map, e]
  rfl
theorem skips0 {n : Nat} {a : PA} (h : a.kind = 0) : ¬ skips n a := by
  unfold skips
  omega
theorem emit_ins {c : PB} (hl : c.prog.length < 65536) (z : PI) (di dn : Nat) : (c.emit z di dn).2.ins = c.ins + di ∧ (c.emit z di dn).2.prog.length = c.prog.length + 1 := by
  unfold PB.emit
  rw [if_neg (by omega)]
  exact ⟨rfl, by show (c.prog ++ [z]).length = _; rw [List.length_append]; rfl⟩
theorem less_ins (c : PB) (u v : PV) : (c.less u v).2.ins = c.ins ∧ (c.less u v).2.prog = c.prog := by
  unfold PB.less
  split
  · exact ⟨rfl, rfl⟩
  split
  · exact ⟨rfl, rfl⟩
  split
  · split
    · exact ⟨rfl, rfl⟩
    split
    · exact ⟨rfl, rfl⟩
    split
    · exact ⟨rfl, rfl⟩
    · exact ⟨rfl, rfl⟩
  · exact ⟨rfl, rfl⟩
section
variable {M : List Bool} {l : List PA} {b c : PB} {x y : PR}
/-- a scalar that came so many acts ago, on both sides -/
theorem Sim.back {is : List Rat} {ws : List Nat} (S : Sim M is ws b c x y) {n : Int} (h1 : 1 ≤ n) (h2 : n ≤ x.vals.length) :
    (y.back n).f = ((x.vals.length - n.toNat : Nat) : Int) ∧ c.wrote (y.back n).f = true ∧ x.back n = x.vals.getD (x.vals.length - n.toNat) PV.zero ∧ x.vals.length - n.toNat < x.vals.length := by
  have hyx : y.vals.length = x.vals.length := by rw [S.hx, S.hy]
  obtain ⟨e1, e2⟩ := back_in x h1 h2
  obtain ⟨e3, e4⟩ := back_in y h1 (by rw [hyx]; exact h2)
  rw [hyx] at e3 e4
  have e5 := S.rf (x.vals.length - n.toNat) (by rw [← S.hx]; exact e2)
  rw [← e3] at e5
  refine ⟨e5, ?_, e1, e2⟩
  unfold PB.wrote
  rw [e5]
  refine decide_eq_true ⟨by omega, ?_⟩
  rw [← S.hx]
  omega
theorem Sim.step (S : Sim M (isOf l) (wsOf l) b c x y) {k : Nat} {a : PA} (ha : l[k]? = some a) (hk : k < 65536) (hi : c.ins = (inActs (l.take k)).length) (hl : c.prog.length ≤ k) (hmt : b.met.length ≤ k)
    (he : (actSt (b, x) a).1.err = 0) (hM : ∃ l', M = (actSt (b, x) a).1.met ++ l') :
    Sim M (isOf l) (wsOf l) (actSt (b, x) a).1 (actSt (c, y) a).1 (actSt (b, x) a).2 (actSt (c, y) a).2 ∧ (actSt (c, y) a).1.ins = (inActs (l.take (k + 1))).length ∧ (actSt (c, y) a).1.prog.length ≤ k + 1 ∧ (actSt (b, x) a).1.met.length ≤ k + 1 := by
  have hyx : y.vals.length = x.vals.length := by rw [S.hx, S.hy]
  have hin := inActs_next l ha
  have hlk : (inActs (l.take k)).length ≤ k := Nat.le_trans (List.length_filter_le _ _) (by rw [List.length_take]; omega)
  have hne : ¬ b.err ≠ 0 := by rw [S.be]; simp
  have hnc : ¬ c.err ≠ 0 := by rw [S.ce]; simp
  have hcm0 : ¬ c.mode = 0 := by rw [S.cm]; decide
  have hcm1 : ¬ c.mode = 1 := by rw [S.cm]; decide
  unfold actSt at he hM ⊢
  simp only [hyx] at he hM ⊢
  by_cases hs : skips x.vals.length a
  · rw [if_pos hs] at he hM ⊢
    rw [if_pos hs]
    rw [if_neg (fun h => skips0 h hs)] at hin
    exact ⟨S, by rw [hin, hi]; rfl, by show c.prog.length ≤ _; omega, by show b.met.length ≤ _; omega⟩
  rw [if_neg hs] at he hM ⊢
  rw [if_neg hs]
  by_cases h0 : a.kind = 0
  · rw [if_pos h0] at he hM hin ⊢
    rw [if_pos h0]
    have ec : c.lit a.p a.q a.w = c.emit ⟨1, c.ins, 0, nilQ⟩ 1 0 := by unfold PB.lit; rw [if_neg hnc, if_neg hcm0, if_neg hcm1]
    rw [ec]
    obtain ⟨i1, i2⟩ := emit_ins (c := c) (by omega) ⟨1, c.ins, 0, nilQ⟩ 1 0
    obtain ⟨g1, g2⟩ := isOf_at ha h0
    obtain ⟨g3, g4⟩ := wsOf_at ha h0
    have hb : ∃ v, b.lit a.p a.q a.w = (v, { b with ins := b.ins + 1 }) ∧ (b.mode = 0 → v = ⟨some ((a.p : Rat) / (a.q : Rat)), 0, 0⟩) ∧ (b.mode = 1 → v.w = cln a.w) := by
      unfold PB.lit at he ⊢
      rw [if_neg hne] at he ⊢
      rcases S.bm with m | m
      · rw [if_pos m] at he ⊢
        by_cases hq : a.q = 0
        · rw [if_pos hq] at he; cases he
        · rw [if_neg hq]
          exact ⟨_, rfl, fun _ => rfl, fun h => by rw [m] at h; cases h⟩
      · rw [if_neg (by rw [m]; decide), if_pos m]
        exact ⟨_, rfl, fun h => (by rw [m] at h; cases h), fun _ => rfl⟩
    obtain ⟨v, ev, v0, v1⟩ := hb
    rw [ev]
    refine ⟨?_, by show (c.emit _ 1 0).2.ins = _; rw [i1, hin, hi], by show (c.emit _ 1 0).2.prog.length ≤ _; omega, by show b.met.length ≤ _; omega⟩
    have S2 : Sim M (isOf l) (wsOf l) { b with ins := b.ins + 1 } c x y := ⟨S.bm, S.be, S.cm, S.ce, S.ca, S.cu, S.ct, S.co, S.hx, S.hy, S.ht, S.rf, S.ft, S.v0, S.v1⟩
    refine Sim.push (dn := 0) S2 (by omega) ?_ (fun m => ⟨_, v0 m, ?_⟩) (fun m => ⟨?_, fun _ => ?_⟩)
    · unfold fits
      rw [if_neg (by decide : ¬ (1 : Int) = 2)]
      refine ⟨show nq nilQ = true by decide, ?_⟩
      rw [if_pos rfl]
      show (0 : Int) ≤ (c.ins : Int) ∧ (c.ins : Int) < 65536 ∧ (0 : Int) = 0
      omega
    · rw [hi, raw_in (by show ((inActs (l.take k)).length : Int).toNat < _; rw [Int.toNat_natCast]; exact g2), Int.toNat_natCast, g1]
    · rw [v1 m, hi, flv_1, Int.toNat_natCast, g3]
    · show (c.ins : Int).toNat < _
      rw [Int.toNat_natCast, hi]; exact g4
  rw [if_neg h0] at he hM hin ⊢
  rw [if_neg h0]
  by_cases h1 : a.kind = 1
  · rw [if_pos h1] at he hM ⊢
    rw [if_pos h1]
    by_cases hq : a.q = 0
    · exfalso
      unfold PB.num at he
      rw [if_neg hne, if_pos hq] at he
      cases he
    have ec : c.num a.p a.q = c.emit ⟨2, 0, 0, qOf ((a.p : Rat) / (a.q : Rat))⟩ 0 0 := by unfold PB.num; rw [if_neg hnc, if_neg hq, if_neg hcm0, if_neg hcm1]
    rw [ec]
    obtain ⟨i1, i2⟩ := emit_ins (c := c) (by omega) ⟨2, 0, 0, qOf ((a.p : Rat) / (a.q : Rat))⟩ 0 0
    have hb : ∃ v, b.num a.p a.q = (v, b) ∧ (b.mode = 0 → v = ⟨some ((a.p : Rat) / (a.q : Rat)), 0, 0⟩) ∧ (b.mode = 1 → v.w = fromQ ((a.p : Rat) / (a.q : Rat))) := by
      unfold PB.num
      rw [if_neg hne, if_neg hq]
      rcases S.bm with m | m
      · rw [if_pos m]
        exact ⟨_, rfl, fun _ => rfl, fun h => by rw [m] at h; cases h⟩
      · rw [if_neg (by rw [m]; decide), if_pos m]
        exact ⟨_, rfl, fun h => (by rw [m] at h; cases h), fun _ => rfl⟩
    obtain ⟨v, ev, v0, v1⟩ := hb
    rw [ev]
    refine ⟨?_, by show (c.emit _ 0 0).2.ins = _; rw [i1, hin, hi], by show (c.emit _ 0 0).2.prog.length ≤ _; omega, by show b.met.length ≤ _; omega⟩
    refine Sim.push (dn := 0) S (by omega) ?_ (fun m => ⟨_, v0 m, ?_⟩) (fun m => ⟨?_, fun h => by cases h⟩)
    · unfold fits
      rw [if_pos rfl]
      exact ⟨rfl, rfl, qOf_right _⟩
    · rw [raw_const, qval_of]
    · rw [v1 m, flv_2, qval_of]
  rw [if_neg h1] at he hM ⊢
  rw [if_neg h1]
  by_cases h2 : 3 ≤ a.kind ∧ a.kind ≤ 10
  · rw [if_pos h2] at he hM ⊢
    rw [if_pos h2]
    have hA : 1 ≤ a.a ∧ a.a ≤ x.vals.length := by unfold skips at hs; omega
    have hB : arity a.kind = 2 → 1 ≤ a.b ∧ a.b ≤ x.vals.length := by
      intro har
      have : 4 ≤ a.kind ∧ a.kind ≤ 7 := by
        unfold arity at har
        split at har
        · cases har
        · split at har
          · cases har
          · split at har
            · assumption
            · cases har
      unfold skips at hs
      omega
    obtain ⟨u1, u2, u3, u4⟩ := S.back hA.1 hA.2
    have ec : c.act a.kind (y.back a.a) (y.back a.b) = c.emit ⟨a.kind, (y.back a.a).f, if arity a.kind = 2 then (y.back a.b).f else 0, nilQ⟩ 0 1 := by
      unfold PB.act
      rw [if_neg hnc, if_neg hcm0, if_neg hcm1, if_neg (by rw [u2]; simp)]
      by_cases har : arity a.kind = 2
      · obtain ⟨w1, w2, w3, w4⟩ := S.back (hB har).1 (hB har).2
        rw [if_neg (by rw [w2]; simp)]
      · rw [if_neg (fun h => har h.1)]
    rw [ec]
    generalize hz : (⟨a.kind, (y.back a.a).f, if arity a.kind = 2 then (y.back a.b).f else 0, nilQ⟩ : PI) = z
    obtain ⟨i1, i2⟩ := emit_ins (c := c) (by omega) z 0 1
    have hb : ∃ v, b.act a.kind (x.back a.a) (x.back a.b) = (v, { b with ops := b.ops + 1 }) ∧ (b.mode = 0 → ∃ X, v = ⟨some X, 0, 0⟩ ∧ exOp a.kind ((x.back a.a).r.getD 0) ((x.back a.b).r.getD 0) = .ok X) ∧ (b.mode = 1 → v.w = flOp a.kind (x.back a.a).w (x.back a.b).w) := by
      unfold PB.act at he ⊢
      rw [if_neg hne] at he ⊢
      rcases S.bm with m | m
      · rw [if_pos m] at he ⊢
        cases hx : exOp a.kind ((x.back a.a).r.getD 0) ((x.back a.b).r.getD 0) with
        | error e =>
          rw [hx] at he
          have he' : e = 0 := he
          rcases raw_err hx with h | h | h <;> omega
        | ok X => exact ⟨_, rfl, fun _ => ⟨X, rfl, rfl⟩, fun h => by rw [m] at h; cases h⟩
      · rw [if_neg (by rw [m]; decide), if_pos m]
        exact ⟨_, rfl, fun h => (by rw [m] at h; cases h), fun _ => rfl⟩
    obtain ⟨v, ev, v0, v1⟩ := hb
    rw [ev]
    have hzb : arity a.kind = 2 → z.b.toNat = x.vals.length - a.b.toNat ∧ x.back a.b = x.vals.getD (x.vals.length - a.b.toNat) PV.zero ∧ x.vals.length - a.b.toNat < x.vals.length ∧ z.b = ((x.vals.length - a.b.toNat : Nat) : Int) := by
      intro har
      obtain ⟨w1, w2, w3, w4⟩ := S.back (hB har).1 (hB har).2
      have e : z.b = ((x.vals.length - a.b.toNat : Nat) : Int) := by rw [← hz]; show (if arity a.kind = 2 then (y.back a.b).f else 0) = _; rw [if_pos har, w1]
      exact ⟨by rw [e, Int.toNat_natCast], w3, w4, e⟩
    have hza : z.a = ((x.vals.length - a.a.toNat : Nat) : Int) := by rw [← hz]; exact u1
    have hzo : z.op = a.kind := by rw [← hz]
    have hz1 : arity a.kind ≠ 2 → z.b = 0 := fun har => by rw [← hz]; show (if arity a.kind = 2 then _ else (0 : Int)) = 0; rw [if_neg har]
    have hzq : z = ⟨a.kind, z.a, z.b, nilQ⟩ := by rw [← hz]
    refine ⟨?_, by show (c.emit z 0 1).2.ins = _; rw [i1, hin, hi], by show (c.emit z 0 1).2.prog.length ≤ _; omega, by show b.met.length ≤ _; omega⟩
    refine Sim.push (dn := 1) S (by omega) ?_ (fun m => ?_) (fun m => ⟨?_, fun h => by rw [hzo] at h; omega⟩)
    · have hlen := S.hx
      unfold fits
      rw [hzo, if_neg (by omega)]
      refine ⟨by rw [hzq]; exact (show nq nilQ = true by decide), ?_⟩
      rw [if_neg h1]
      rcases ar_cases a.kind with ⟨g, d⟩ | ⟨g, d1, d2⟩ | ⟨g, d1, d2⟩ | ⟨g, d1, d2⟩
      · omega
      · rw [if_pos g, hza]
        exact ⟨by omega, by omega, hz1 (by omega)⟩
      · rw [if_neg (by omega), hza]
        obtain ⟨_, _, w4, w5⟩ := hzb g
        rw [w5]
        exact ⟨g, by omega, by omega, by omega, by omega⟩
      · exfalso
        unfold arity at g
        split at g
        · cases g
        · split at g
          · cases g
          · split at g
            · cases g
            · omega
    · obtain ⟨X, e1, e2⟩ := v0 m
      refine ⟨X, e1, ?_⟩
      rw [hzq, raw_op h2 (y := (x.back a.b).r.getD 0) (fun har => by
        obtain ⟨w1, w2, w3, _⟩ := hzb har
        rw [w1, ratsOf_at _ w3, w2]), hza, Int.toNat_natCast, ratsOf_at _ u4, ← u3]
      exact e2
    · rw [v1 m, hzq, flv_op h2 (y := (x.back a.b).w) (fun har => by
        obtain ⟨w1, w2, w3, _⟩ := hzb har
        rw [w1, bitsOf_at _ w3, w2]), hza, Int.toNat_natCast, bitsOf_at _ u4, ← u3]
  rw [if_neg h2] at he hM ⊢
  rw [if_neg h2]
  by_cases h3 : a.kind = 11
  · rw [if_pos h3] at he hM ⊢
    rw [if_pos h3]
    have hA : (1 ≤ a.a ∧ a.a ≤ x.vals.length) ∧ (1 ≤ a.b ∧ a.b ≤ x.vals.length) := by unfold skips at hs; omega
    obtain ⟨u1, u2, u3, u4⟩ := S.back hA.1.1 hA.1.2
    obtain ⟨w1, w2, w3, w4⟩ := S.back hA.2.1 hA.2.2
    have eb : b.less (x.back a.a) (x.back a.b) = (lessOf b.mode (x.back a.a) (x.back a.b), { b with met := b.met ++ [lessOf b.mode (x.back a.a) (x.back a.b)], tie := b.tie || (!lessOf b.mode (x.back a.a) (x.back a.b) && !lessOf b.mode (x.back a.b) (x.back a.a)) }) := by
      unfold PB.less
      rw [if_neg hne, if_neg (by omega), if_neg (by rcases S.bm with m | m <;> (rw [m]; decide))]
    rw [eb] at hM ⊢
    obtain ⟨i1, i2⟩ := less_ins c (y.back a.a) (y.back a.b)
    refine ⟨S.say (by omega) hM u2 w2, by show (c.less _ _).2.ins = _; rw [i1, hin, hi]; rfl, by show (c.less _ _).2.prog.length ≤ _; rw [i2]; omega, ?_⟩
    show (b.met ++ [_]).length ≤ _
    rw [List.length_append]
    show b.met.length + 1 ≤ _
    omega
  rw [if_neg h3] at he hM ⊢
  rw [if_neg h3]
  exact ⟨S, by show c.ins = _; rw [hin, hi]; rfl, by show c.prog.length ≤ _; omega, by show b.met.length ≤ _; omega⟩
/-- the program's values, exactly, if none is too long -/
theorem Sim.exact (S : Sim M (isOf l) (wsOf l) b c x y) (h0 : b.mode = 0) (hz : ∀ i, i < c.prog.length → ¬ 4096 < bitsQ ((ratsOf x.vals).getD i 0)) : evTo (exSt (isOf l) [] c.prog) c.prog c.prog.length = .ok (ratsOf x.vals) := by
  have key : ∀ n, n ≤ c.prog.length → evTo (exSt (isOf l) [] c.prog) c.prog n = .ok (ratsOf (x.vals.take n)) := by
    intro n
    induction n with
    | zero => intro _; rfl
    | succ n ih =>
      intro hn
      have hlt : n < x.vals.length := by rw [S.hx]; omega
      obtain ⟨X, e1, e2⟩ := S.v0 h0 n (by omega)
      have hz' := hz n (by omega)
      rw [ratsOf_at _ hlt, e1] at hz'
      have e3 : x.vals.take (n + 1) = x.vals.take n ++ [(⟨some X, 0, 0⟩ : PV)] := by
        rw [List.take_add_one, List.getElem?_eq_getElem hlt]
        congr 2
        rw [← e1, List.getD_eq_getElem?_getD, List.getElem?_eq_getElem hlt]
        rfl
      rw [e3]
      have e4 : ratsOf (x.vals.take n ++ [(⟨some X, 0, 0⟩ : PV)]) = ratsOf (x.vals.take n) ++ [X] := by unfold ratsOf; rw [List.map_append]; rfl
      rw [e4]
      refine evTo_step (ih (by omega)) ?_
      unfold exSt
      rw [List.drop_nil, e2]
      exact big_yes hz'
  have := key _ (Nat.le_refl _)
  rw [← S.hx, List.take_length] at this
  rw [← S.hx]
  exact this
/-- what was written is a program -/
theorem Sim.prog {is : List Rat} {ws : List Nat} (S : Sim M is ws b c x y) (h : c.prog.length ≤ 65536) : IsProg vq nq c.prog := ⟨S.ft, h⟩
end

end Go.Proofs.YthpbaaanbimapaaGreatDoor

namespace Go.Proofs.YthpbaaanbimapaaGreatDoor
set_option maxRecDepth 100000
open Go.RowKit
set_option linter.unusedVariables false
set_option linter.unusedSimpArgs false

/-- no word, or the word 0 -/
def NZ (u : Value) : Prop := ∀ x : Int, u = .int .u64 x → x = 0
theorem NoW.nz {u : Value} (h : NoW u) : NZ u := fun x e => absurd e (h x)
/-- the words of numbers stay: a block turns only behind its last word that is not 0 -/
def WK (w w' : World) : Prop := w.heap.size ≤ w'.heap.size ∧ ∀ b, b < w.heap.size → ∃ P : Nat → Prop, (∀ i j, j ≤ i → P i → P j) ∧ (∀ i, P i → w'.cell? ⟨b, i, none⟩ = w.cell? ⟨b, i, none⟩) ∧ ∀ i u, ¬ P i → w.cell? ⟨b, i, none⟩ = some u → NZ u
theorem WK.refl (w : World) : WK w w := ⟨Nat.le_refl _, fun _ _ => ⟨fun _ => True, fun _ _ _ h => h, fun _ _ => rfl, fun _ _ h => absurd trivial h⟩⟩
theorem WK.trans {a b c : World} (h : WK a b) (k : WK b c) : WK a c := by
  refine ⟨Nat.le_trans h.1 k.1, fun g hg => ?_⟩
  obtain ⟨P, p1, p2, p3⟩ := h.2 g hg
  obtain ⟨R, q1, q2, q3⟩ := k.2 g (Nat.lt_of_lt_of_le hg h.1)
  refine ⟨fun i => P i ∧ R i, fun i j hj hp => ⟨p1 i j hj hp.1, q1 i j hj hp.2⟩, fun i hp => (q2 i hp.2).trans (p2 i hp.1), fun i u hn hu => ?_⟩
  by_cases hP : P i
  · exact q3 i u (fun hQ => hn ⟨hP, hQ⟩) ((p2 i hP).trans hu)
  · exact p3 i u hP hu
theorem WK.below {w w' : World} (h : Below w.heap.size w w') : WK w w' :=
  ⟨h.size, fun b hb => ⟨fun _ => True, fun _ _ _ h => h, fun i _ => World.cell?_of_block (a := ⟨b, i, none⟩) (h.block b hb), fun _ _ h => absurd trivial h⟩⟩
theorem Sl.wk {w w' : World} {A : Option Addr} {n c : Nat} {xs : List Int} (h : Sl w A n c xs) (hl : n = 0 ∨ xs.getD (n - 1) 0 ≠ 0) (hk : WK w w') : Sl w' A n c xs := by
  refine ⟨h.1, fun h0 => ?_⟩
  obtain ⟨b, off, e, hlt, hc⟩ := h.2 h0
  obtain ⟨P, p1, p2, p3⟩ := hk.2 b hlt
  have hP : P (off + (n - 1)) := by
    by_cases hP : P (off + (n - 1))
    · exact hP
    · have := p3 _ _ hP (hc (n - 1) (by omega)) _ rfl
      rcases hl with hl | hl
      · omega
      · exact absurd this hl
  exact ⟨b, off, e, Nat.lt_of_lt_of_le hlt hk.1, fun j hj => (p2 _ (p1 _ _ (by omega) hP)).trans (hc j hj)⟩
theorem words_last (v : Nat) {n : Nat} (h : n = (words v).length) : n = 0 ∨ (words v).getD (n - 1) 0 ≠ 0 := by
  rcases Nat.eq_zero_or_pos n with h0 | h0
  · exact .inl h0
  · right
    have := sz_last (words v) (by rw [sz_words]; omega)
    rw [sz_words, ← h] at this
    exact this
theorem Q.wk {w w' : World} {s : Bool} {A A' : Option Addr} {n c n' c' : Nat} {X : Rat} (h : Q w s A n c A' n' c' X) (hk : WK w w') : Q w' s A n c A' n' c' X :=
  ⟨h.1, h.2.1.wk (words_last _ h.2.1.len) hk, h.2.2.wk (words_last _ h.2.2.len) hk⟩

/-- only blocks of F have turned -/
structure Only (F : List Nat) (w w' : World) : Prop where
  os : w'.os = w.os
  tape : w'.tape = w.tape
  output : w'.output = w.output
  size : w.heap.size ≤ w'.heap.size
  block : ∀ k, k < w.heap.size → k ∉ F → w'.heap[k]? = w.heap[k]?
theorem Only.refl (F : List Nat) (w : World) : Only F w w := ⟨rfl, rfl, rfl, Nat.le_refl _, fun _ _ _ => rfl⟩
theorem Only.mono {F G : List Nat} {w w' : World} (h : Only F w w') (hs : ∀ g ∈ F, g ∈ G ∨ w.heap.size ≤ g) : Only G w w' :=
  ⟨h.os, h.tape, h.output, h.size, fun k hk hn => h.block k hk (fun hf => (hs k hf).elim hn (fun h9 => absurd hk (by omega)))⟩
theorem Only.trans {F G : List Nat} {a b c : World} (h : Only F a b) (k : Only G b c) (hs : ∀ g ∈ G, g ∈ F ∨ a.heap.size ≤ g) : Only F a c :=
  ⟨k.os.trans h.os, k.tape.trans h.tape, k.output.trans h.output, Nat.le_trans h.size k.size, fun i hi hn => (k.block i (Nat.lt_of_lt_of_le hi h.size) (fun hf => (hs i hf).elim hn (fun h9 => absurd hi (by omega)))).trans (h.block i hi hn)⟩
theorem Only.of_below {w w' : World} (F : List Nat) (h : Below w.heap.size w w') : Only F w w' := ⟨h.os, h.tape, h.output, h.size, fun k hk _ => h.block k hk⟩
theorem Only.below {F : List Nat} {B : Nat} {w w' : World} (h : Only F w w') (hB : B ≤ w.heap.size) (hF : ∀ g ∈ F, B ≤ g) : Below B w w' :=
  ⟨h.os, h.tape, h.output, h.size, fun k hk => h.block k (by omega) (fun hf => by have := hF k hf; omega)⟩
theorem Only.cell {F : List Nat} {w w' : World} (h : Only F w w') {b i : Nat} (hb : b < w.heap.size) (hn : b ∉ F) : w'.cell? ⟨b, i, none⟩ = w.cell? ⟨b, i, none⟩ := World.cell?_of_block (a := ⟨b, i, none⟩) (h.block b hb hn)
theorem Only.box {F : List Nat} {w w' : World} {t : TypeId} {g : Nat} {vs : Array Value} (h : Only F w w') (hb : Box t w g vs) (hn : g ∉ F) : Box t w' g vs := (h.block g hb.lt hn).trans hb

/-- the block in which a slice's row lies -/
def ownL (v : Value) : List Nat := match v.ownBlock with
  | some g => [g]
  | none => []
theorem ownL_nil : ownL (.slice none 0 0) = [] := rfl
theorem ownL_some (g off n c : Nat) : ownL (.slice (some ⟨g, off, none⟩) n c) = [g] := rfl

/-- the slice value v has a block for itself, in which the elements xs lie first; behind them there are no words but 0 -/
def Rw (k : Nat) {V : Type} (cells : V → List Value) (t : TypeId) (w : World) (v : Value) (xs : List V) : Prop :=
  (∀ x ∈ xs, (cells x).length = k) ∧ ((v = .slice none 0 0 ∧ xs = []) ∨
    ∃ g cap cur, v = .slice (some ⟨g, 0, none⟩) xs.length cap ∧ w.heap[g]? = some (.cells cur t (0, 0)) ∧ xs.length ≤ cap ∧ cap ≤ maxLen ∧ cap * k ≤ cur.size ∧
      cur.toList.take (xs.length * k) = xs.flatMap cells ∧ ∀ i u, xs.length * k ≤ i → cur.toList[i]? = some u → NZ u)
section
variable {k : Nat} {V : Type} {cells : V → List Value} {t : TypeId} {w w' : World} {v : Value} {xs : List V}
theorem Rw.nil : Rw k cells t w (.slice none 0 0) [] := ⟨by simp, .inl ⟨rfl, rfl⟩⟩
theorem Rw.form (h : Rw k cells t w v xs) : ∃ A c, v = .slice A xs.length c ∧ xs.length ≤ c ∧ c ≤ maxLen := by
  rcases h with ⟨_, ⟨rfl, rfl⟩ | ⟨g, cap, cur, rfl, _, h1, h2, _⟩⟩
  · exact ⟨none, 0, rfl, Nat.le_refl _, by unfold maxLen; omega⟩
  · exact ⟨_, _, rfl, h1, h2⟩
theorem Rw.lt (h : Rw k cells t w v xs) : ∀ g ∈ ownL v, g < w.heap.size := by
  rcases h with ⟨_, ⟨rfl, rfl⟩ | ⟨g, cap, cur, rfl, h1, _⟩⟩
  · intro g hg; rw [ownL_nil] at hg; cases hg
  · intro g' hg
    rw [ownL_some, List.mem_singleton] at hg
    subst hg
    rcases Nat.lt_or_ge g' w.heap.size with h9 | h9
    · exact h9
    · rw [Array.getElem?_eq_none h9] at h1; cases h1
theorem Rw.only {F : List Nat} (h : Rw k cells t w v xs) (ho : Only F w w') (hd : ∀ g ∈ ownL v, g ∉ F) : Rw k cells t w' v xs := by
  have hlt := h.lt
  refine ⟨h.1, ?_⟩
  rcases h.2 with h2 | ⟨g, cap, cur, hv, hh, r⟩
  · exact .inl h2
  · have hg : g ∈ ownL v := by rw [hv, ownL_some]; simp
    exact .inr ⟨g, cap, cur, hv, (ho.block g (hlt g hg) (hd g hg)).trans hh, r⟩
theorem Rw.below (h : Rw k cells t w v xs) (hb : Below w.heap.size w w') : Rw k cells t w' v xs := h.only (Only.of_below [] hb) (fun g _ => by simp)
theorem Rw.slc {ok : World → V → Prop} {A : Option Addr} {n c : Nat} (h : Rw k cells t w (.slice A n c) xs) (hok : ∀ x ∈ xs, ok w x) : SlC k cells ok w A n c xs := by
  have hlt := h.lt
  rcases h with ⟨hl, ⟨e, rfl⟩ | ⟨g, cap, cur, e, h2, h3, h4, h5, h6, _⟩⟩
  · injection e with e1 e2 e3
    subst e1 e2 e3
    exact ⟨⟨rfl, Nat.le_refl _, by unfold maxLen; omega, by simp⟩, fun h0 => absurd h0 (by omega)⟩
  · injection e with e1 e2 e3
    subst e1 e2 e3
    have hg := hlt g (by rw [ownL_some]; simp)
    refine ⟨⟨rfl, h3, h4, fun x hx => ⟨hok x hx, hl x hx⟩⟩, fun h0 => ⟨g, 0, rfl, hg, fun j hj i hi => ?_⟩⟩
    rw [← flat_at xs hl j i hi, ← h6, cell_of_row w g _ cur t (0, 0) h2, Nat.zero_add, List.getElem?_take, if_pos]
    · simp
    · have : (j + 1) * k ≤ xs.length * k := Nat.mul_le_mul_right _ hj
      rw [Nat.add_mul] at this
      omega
/-- the first n of them, with no room behind: what is cut off -/
theorem Rw.cut {n : Nat} {A : Option Addr} {m c : Nat} (h : Rw k cells t w (.slice A m c) xs) (hn : n ≤ m) (hw : ∀ x ∈ xs, ∀ u ∈ cells x, NoW u) (h0 : 0 < n ∨ A ≠ none) : Rw k cells t w (.slice A n n) (xs.take n) := by
  obtain ⟨hl, h2⟩ := h
  refine ⟨fun x hx => hl x (List.mem_of_mem_take hx), ?_⟩
  rcases h2 with ⟨e, rfl⟩ | ⟨g, cap, cur, e, h2, h3, h4, h5, h6, h7⟩
  · injection e with e1 e2 e3
    subst e1 e2 e3
    rcases h0 with h0 | h0
    · omega
    · exact absurd rfl h0
  · injection e with e1 e2 e3
    subst e1 e2 e3
    have hlen : (xs.take n).length = n := by rw [List.length_take]; omega
    have hk : n * k ≤ xs.length * k := Nat.mul_le_mul_right k hn
    have htk : (xs.take n).flatMap cells = (xs.flatMap cells).take (n * k) := by
      have e1 : xs.flatMap cells = (xs.take n).flatMap cells ++ (xs.drop n).flatMap cells := by rw [← List.flatMap_append, List.take_append_drop]
      have e2 : ((xs.take n).flatMap cells).length = n * k := by rw [flat_len _ (fun x hx => hl x (List.mem_of_mem_take hx)), hlen]
      rw [e1, ← e2, List.take_left]
    refine .inr ⟨g, n, cur, by rw [hlen], h2, by rw [hlen]; exact Nat.le_refl _, by omega, ?_, ?_, ?_⟩
    · have := Nat.mul_le_mul_right k h3
      omega
    · rw [hlen, htk, ← h6, List.take_take, Nat.min_eq_left hk]
    · intro i u hi hu
      rw [hlen] at hi
      rcases Nat.lt_or_ge i (xs.length * k) with h9 | h9
      · have : (xs.flatMap cells)[i]? = some u := by rw [← h6, List.getElem?_take, if_pos h9]; exact hu
        obtain ⟨x, hx, hux⟩ := List.mem_flatMap.1 (List.mem_of_getElem? this)
        exact (hw x hx u hux).nz
      · exact h7 i u h9 hu
end
theorem wk_setRow {w : World} {g : Nat} {cur : Array Value} {t : TypeId} (hg : w.heap[g]? = some (.cells cur t (0, 0))) (cs : Array Value) (m : Nat) (hsame : ∀ i, i < m → cs[i]? = cur[i]?) (hz : ∀ i u, m ≤ i → cur[i]? = some u → NZ u) : WK w (w.setRow g cs) := by
  refine ⟨by simp, fun b hb => ?_⟩
  by_cases e : b = g
  · subst e
    refine ⟨fun i => i < m, fun i j hj hi => by omega, fun i hi => ?_, fun i u hn hu => ?_⟩
    · rw [cell_of_row w b i cur t (0, 0) hg, cell_of_row _ b i cs t (0, 0) (setRow_heap w b cur cs t _ hg), hsame i hi]
    · rw [cell_of_row w b i cur t (0, 0) hg] at hu
      exact hz i u (by omega) hu
  · exact ⟨fun _ => True, fun _ _ _ h => h, fun i _ => World.cell?_of_block (a := ⟨b, i, none⟩) (setRow_other w g b _ e), fun _ _ h => absurd trivial h⟩
/-- append of one element -/
theorem run_append_R {P : Program} (w : World) {V : Type} {k : Nat} {cells : V → List Value} (t ty e : TypeId) (i : TypeInfo) (z : Value) (bytes : Nat) (ht : P.underlying t = some (.slice e)) (hi : P.info? e = some i) (hz : i.zero = some z)
    (hsize : i.size = k) (hby : i.bytes = bytes) (hzs : z.cells.size = k) (hsz : 0 < k) (hzw : ∀ u ∈ z.cells.toList, NZ u)
    (v : Value) (xs : List V) (hown : Rw k cells e w v xs)
    (a : Addr) (c : Nat) (y : V) (hl : (cells y).length = k) (hnews : ∀ j u, (cells y)[j]? = some u → w.cell? (a.add j) = some u) (h1 : ∀ u ∈ cells y, u.oneCell' = true)
    (h63 : xs.length + 1 ≤ maxLen) (hbytes : (xs.length + 1) * bytes ≤ 140737488355328) :
    ∃ v' w', (Builtin.append_ #[t, t] ty #[v, .slice (some a) 1 c]).run P w = .ok v' w' ∧ Rw k cells e w' v' (xs ++ [y]) ∧ Only (ownL v) w w' ∧ WK w w' ∧ ∀ g ∈ ownL v', g ∈ ownL v ∨ w.heap.size ≤ g := by
  subst hsize
  subst hby
  have hl' : (cells y).length = 1 * i.size := by omega
  have hsmall : xs.length + 1 ≤ 9223372036854775807 := by simp only [maxLen] at h63; omega
  have hfl : (xs.flatMap cells).length = xs.length * i.size := flat_len xs hown.1
  have hall : ∀ x ∈ xs ++ [y], (cells x).length = i.size := by
    intro x hx
    rcases List.mem_append.1 hx with hx | hx
    · exact hown.1 x hx
    · rw [List.mem_singleton.1 hx]; exact hl
  have hfm : (xs ++ [y]).flatMap cells = xs.flatMap cells ++ cells y := by rw [List.flatMap_append]; simp
  have hlen : (xs.flatMap cells ++ cells y).length = (xs.length + 1) * i.size := by rw [List.length_append, hfl, hl, Nat.add_mul]; omega
  have grown : ∀ (old : Nat), old < xs.length + 1 → ∀ (F : List Nat),
      Rw i.size cells e (w.drew.alloc (.cells ((xs.flatMap cells).toArray ++ (cells y).toArray ++ Builtin.zeroCells z.cells (grownCap w (xs.length + 1) old e - (xs.length + 1))) e))
        (.slice (some ⟨w.heap.size, 0, none⟩) (xs.length + 1) (grownCap w (xs.length + 1) old e)) (xs ++ [y]) ∧
      Only F w (w.drew.alloc (.cells ((xs.flatMap cells).toArray ++ (cells y).toArray ++ Builtin.zeroCells z.cells (grownCap w (xs.length + 1) old e - (xs.length + 1))) e)) ∧
      WK w (w.drew.alloc (.cells ((xs.flatMap cells).toArray ++ (cells y).toArray ++ Builtin.zeroCells z.cells (grownCap w (xs.length + 1) old e - (xs.length + 1))) e)) := by
    intro old ho F
    have hge := grownCap_ge w (xs.length + 1) old e
    have hcm : grownCap w (xs.length + 1) old e ≤ maxLen := grownCap_le_maxLen w (xs.length + 1) old e h63
    have hbl : Below w.heap.size w (w.drew.alloc (.cells ((xs.flatMap cells).toArray ++ (cells y).toArray ++ Builtin.zeroCells z.cells (grownCap w (xs.length + 1) old e - (xs.length + 1))) e)) := (Below.refl _ w).drew.alloc (Nat.le_refl _) _
    refine ⟨⟨hall, .inr ⟨w.heap.size, _, _, by rw [List.length_append]; rfl, heap_alloc_new w.drew _, by rw [List.length_append]; exact hge, hcm, ?_, ?_, ?_⟩⟩, Only.of_below F hbl, WK.below hbl⟩
    · simp only [Array.size_append, List.size_toArray, size_zeroCells, hzs, hfl, hl, ← Nat.add_mul]
      rw [show xs.length * i.size + i.size = (xs.length + 1) * i.size by rw [Nat.add_mul]; omega, ← Nat.add_mul]
      exact Nat.mul_le_mul_right _ (by omega)
    · simp only [Array.toList_append, List.append_assoc]
      rw [← List.append_assoc, hfm, show (xs ++ [y]).length = xs.length + 1 by simp, ← hlen]
      exact List.take_left
    · intro j u hj hu
      simp only [Array.toList_append] at hu
      rw [show (xs ++ [y]).length = xs.length + 1 by simp, ← hlen] at hj
      rw [List.getElem?_append_right hj] at hu
      exact hzw u (mem_zeroCells (by omega) (List.mem_of_getElem? hu))
  rcases hown.2 with ⟨rfl, rfl⟩ | ⟨g, cap, cur, rfl, hg, hnc, hcm, hcs, htake, hcw⟩
  · have hr := run_append_nil (P := P) w t ty e i z ht hi hz a 1 c (cells y) hl' hnews (by omega) (by omega) (by have hb := hbytes; simp only [List.length_nil, Nat.zero_add] at hb; omega)
    have hgr := grown 0 (by simp) (ownL (.slice none 0 0))
    simp only [List.length_nil, Nat.zero_add, List.nil_append, List.flatMap_nil, Array.empty_append] at hgr ⊢
    exact ⟨_, _, hr, hgr.1, hgr.2.1, hgr.2.2, fun g hg => .inr (by rw [ownL_some, List.mem_singleton] at hg; omega)⟩
  · by_cases hroom : xs.length + 1 ≤ cap
    · have hfit : xs.length * i.size + (cells y).length ≤ cur.size := by
        have := Nat.mul_le_mul_right i.size hroom
        rw [Nat.add_mul] at this
        rw [hl]; omega
      have hr := run_append_room (P := P) w t ty e i ht hi g xs.length cap cur hg a 1 c (cells y) hl' hnews h1 hroom hfit
      refine ⟨_, _, hr, ⟨hall, .inr ⟨g, cap, _, by rw [List.length_append]; rfl, setRow_heap w g cur _ e _ hg, by rw [List.length_append]; exact hroom, hcm, ?_, ?_, ?_⟩⟩, ⟨rfl, rfl, rfl, by simp, fun k _ hk => setRow_other w g k _ (fun e => hk (by rw [ownL_some, e]; simp))⟩, ?_, fun g' hg' => .inl hg'⟩
      · simp only [List.size_toArray, List.length_append, List.length_take, List.length_drop, Array.length_toList]
        omega
      · rw [htake, hfm, show (xs ++ [y]).length = xs.length + 1 by simp, ← hlen]
        exact List.take_left
      · intro j u hj hu
        rw [show (xs ++ [y]).length = xs.length + 1 by simp, ← hlen, ← htake] at hj
        simp only at hu
        rw [List.getElem?_append_right hj, List.getElem?_drop] at hu
        refine hcw _ u ?_ hu
        omega
      · refine wk_setRow hg _ (xs.length * i.size) (fun j hj => ?_) (fun j u hj hu => hcw j u hj (by simpa using hu))
        rw [List.append_assoc]
        have hj2 : j < (cur.toList.take (xs.length * i.size)).length := by rw [htake, hfl]; exact hj
        simp only [List.getElem?_toArray]
        rw [List.getElem?_append_left hj2, List.getElem?_take, if_pos hj]
        simp
    · have holds : ∀ j u, (xs.flatMap cells)[j]? = some u → w.cell? ((⟨g, 0, none⟩ : Addr).add j) = some u := by
        intro j u hu
        have e1 : (⟨g, 0, none⟩ : Addr).add j = ⟨g, j, none⟩ := by
          unfold Addr.add; split
          · rename_i h9; rw [h9]
          · rw [Nat.zero_add]
        rw [e1, cell_of_row w g j cur e (0, 0) hg]
        rw [← htake, List.getElem?_take] at hu
        split at hu
        · simpa using hu
        · cases hu
      have hr := run_append_grow (P := P) w t ty e i z ht hi hz ⟨g, 0, none⟩ xs.length cap (xs.flatMap cells) hfl holds a 1 c (cells y) hl' hnews (by omega) (by omega) (growslice_fits (by omega) hbytes)
      have hgr := grown cap (by omega) (ownL (.slice (some ⟨g, 0, none⟩) xs.length cap))
      exact ⟨_, _, hr, hgr.1, hgr.2.1, hgr.2.2, fun g' hg' => .inr (by rw [ownL_some, List.mem_singleton] at hg'; omega)⟩
theorem wp_append_R {P : Program} (w : World) {V : Type} {k : Nat} {cells : V → List Value} {o : Oper} {a : Act} {K : Act → World → Prop} {Q : Exit → Act → World → Prop} (s x : Operand) (t : TypeId)
    (ho : o.op = .call { callee := .builtin .append, args := #[s, x], argTypes := #[t, t] })
    (e : TypeId) (i : TypeInfo) (z : Value) (bytes : Nat) (ht : P.underlying t = some (.slice e)) (hi : P.info? e = some i) (hz : i.zero = some z)
    (hsize : i.size = k) (hby : i.bytes = bytes) (hzs : z.cells.size = k) (hsz : 0 < k) (hzw : ∀ u ∈ z.cells.toList, NZ u)
    (v : Value) (xs : List V) (hs : a.eval s = v) (hown : Rw k cells e w v xs)
    (ad : Addr) (c : Nat) (y : V) (hx : a.eval x = .slice (some ad) 1 c) (hl : (cells y).length = k) (hnews : ∀ j u, (cells y)[j]? = some u → w.cell? (ad.add j) = some u) (h1 : ∀ u ∈ cells y, u.oneCell' = true)
    (h63 : xs.length + 1 ≤ maxLen) (hbytes : (xs.length + 1) * bytes ≤ 140737488355328)
    (h : ∀ v' w', Rw k cells e w' v' (xs ++ [y]) → Only (ownL v) w w' → WK w w' → (∀ g ∈ ownL v', g ∈ ownL v ∨ w.heap.size ≤ g) → K (a.put o.dst v') w') : o.wp P a w K Q := by
  obtain ⟨v', w', hr, h2, h3, h4, h5⟩ := run_append_R (P := P) w t o.type e i z bytes ht hi hz hsize hby hzs hsz hzw v xs hown ad c y hl hnews h1 h63 hbytes
  unfold Oper.wp execOp
  simp only [ho, resolve, invoke, builtin, Sem.run_bind, Sem.run_pure, Result.andThen_ok, List.map_toArray, List.map_cons, List.map_nil, hs, hx, hr]
  exact h v' w' h2 h3 h4 h5
end Go.Proofs.YthpbaaanbimapaaGreatDoor

namespace Go.Proofs.YthpbaaanbimapaaGreatDoor
set_option maxRecDepth 100000
open Go.RowKit
set_option linter.unusedVariables false
set_option linter.unusedSimpArgs false

def bcell (x : Bool) : List Value := [.bool x]
/-- words that end in one that is not 0 stay where words stay -/
def Tight (n : Nat) (z : List Int) : Prop := n = 0 ∨ z.getD (n - 1) 0 ≠ 0
def RI.tight (w : World) (p : RI) : Prop := p.ok w ∧ Tight p.q.n p.q.z ∧ Tight p.q.n' p.q.z'
theorem RI.tight_wk {w w' : World} {p : RI} (h : p.tight w) (hk : WK w w') : p.tight w' := ⟨⟨h.1.1, h.1.2.1, h.1.2.2.1, h.1.2.2.2.1.wk h.2.1 hk, h.1.2.2.2.2.1.wk h.2.2 hk, h.1.2.2.2.2.2⟩, h.2⟩
/-- the cells of a bank -/
def bkCells (b : PB) (va vp vm : Value) : Array Value := #[.int .i64 b.mode, va, vp, vm, .int .i64 b.prog.length, .int .i64 b.used, .int .i64 b.met.length, .int .i64 b.ops, .int .i64 b.ins, .bool b.tie, .int .i64 b.err]
/-- the bank b lies in block g; its blocks are those of F -/
structure BkAt (w : World) (F : List Nat) (g : Nat) (b : PB) (va vp vm : Value) (ps : List RI) : Prop where
  box : Box 77 w g (bkCells b va vp vm)
  ra : Rw 1 bcell 4 w va b.asks
  rp : Rw 6 RI.cells 80 w vp ps
  rm : Rw 1 bcell 4 w vm b.met
  pi : ps.map RI.pi = b.prog
  ok : ∀ p ∈ ps, p.tight w
  own : ∀ x, x ∈ F ↔ x = g ∨ x ∈ ownL va ∨ x ∈ ownL vp ∨ x ∈ ownL vm
  d1 : g ∉ ownL va ∧ g ∉ ownL vp ∧ g ∉ ownL vm
  d2 : (∀ x ∈ ownL va, x ∉ ownL vp ∧ x ∉ ownL vm) ∧ ∀ x ∈ ownL vp, x ∉ ownL vm
  pl : b.prog.length ≤ 65536
  ml : b.met.length ≤ 65536
  ul : b.used ≤ b.asks.length
def Bk (w : World) (F : List Nat) (g : Nat) (b : PB) : Prop := ∃ va vp vm ps, BkAt w F g b va vp vm ps
section
variable {w w' : World} {F G : List Nat} {g : Nat} {b : PB} {va vp vm : Value} {ps : List RI}
theorem BkAt.lt (h : BkAt w F g b va vp vm ps) : ∀ x ∈ F, x < w.heap.size := by
  intro x hx
  rcases (h.own x).1 hx with rfl | hx | hx | hx
  · exact h.box.lt
  · exact h.ra.lt x hx
  · exact h.rp.lt x hx
  · exact h.rm.lt x hx
/-- a bank stays where nothing of it turns -/
theorem BkAt.only (h : BkAt w F g b va vp vm ps) (ho : Only G w w') (hk : WK w w') (hd : ∀ x ∈ F, x ∉ G) : BkAt w' F g b va vp vm ps where
  box := ho.box h.box (hd g ((h.own g).2 (.inl rfl)))
  ra := h.ra.only ho (fun x hx => hd x ((h.own x).2 (.inr (.inl hx))))
  rp := h.rp.only ho (fun x hx => hd x ((h.own x).2 (.inr (.inr (.inl hx)))))
  rm := h.rm.only ho (fun x hx => hd x ((h.own x).2 (.inr (.inr (.inr hx)))))
  pi := h.pi
  ok := fun p hp => RI.tight_wk (h.ok p hp) hk
  own := h.own
  d1 := h.d1
  d2 := h.d2
  pl := h.pl
  ml := h.ml
  ul := h.ul
theorem Bk.only (h : Bk w F g b) (ho : Only G w w') (hk : WK w w') (hd : ∀ x ∈ F, x ∉ G) : Bk w' F g b := by
  obtain ⟨va, vp, vm, ps, h⟩ := h
  exact ⟨va, vp, vm, ps, h.only ho hk hd⟩
theorem BkAt.below (h : BkAt w F g b va vp vm ps) (hb : Below w.heap.size w w') : BkAt w' F g b va vp vm ps := h.only (Only.of_below [] hb) (WK.below hb) (fun x _ => by simp)
theorem Bk.below (h : Bk w F g b) (hb : Below w.heap.size w w') : Bk w' F g b := h.only (Only.of_below [] hb) (WK.below hb) (fun x _ => by simp)
theorem BkAt.cells (h : BkAt w F g b va vp vm ps) : w.cell? ⟨g, 0, none⟩ = some (.int .i64 b.mode) ∧ w.cell? ⟨g, 1, none⟩ = some va ∧ w.cell? ⟨g, 2, none⟩ = some vp ∧ w.cell? ⟨g, 3, none⟩ = some vm ∧ w.cell? ⟨g, 4, none⟩ = some (.int .i64 b.prog.length) ∧ w.cell? ⟨g, 5, none⟩ = some (.int .i64 b.used) ∧ w.cell? ⟨g, 6, none⟩ = some (.int .i64 b.met.length) ∧ w.cell? ⟨g, 7, none⟩ = some (.int .i64 b.ops) ∧ w.cell? ⟨g, 8, none⟩ = some (.int .i64 b.ins) ∧ w.cell? ⟨g, 9, none⟩ = some (.bool b.tie) ∧ w.cell? ⟨g, 10, none⟩ = some (.int .i64 b.err) :=
  ⟨h.box.cell 0, h.box.cell 1, h.box.cell 2, h.box.cell 3, h.box.cell 4, h.box.cell 5, h.box.cell 6, h.box.cell 7, h.box.cell 8, h.box.cell 9, h.box.cell 10⟩
end

theorem bk_err {w : World} {F : List Nat} {g : Nat} {b : PB} (h : Bk w F g b) : Calls Tryz.prog 14 #[.pointer (some ⟨g, 0, none⟩)] w (fun e w' => e = .returned (.int .i64 b.err) ∧ w = w') := by
  obtain ⟨va, vp, vm, ps, h⟩ := h
  obtain ⟨k0, k1, k2, k3, k4, k5, k6, k7, k8, k9, k10⟩ := h.cells
  clear h
  go_enter Tryz.func14, Tryz.ntmps14
  go_wp2_with fail
  go_ret
  exact ⟨rfl, rfl⟩
/-- what a call of a bank's method leaves: the bank, now b', its blocks; words stay; only its blocks have turned -/
def BkStep (w : World) (F : List Nat) (g : Nat) (b' : PB) (w' : World) : Prop := ∃ F', Bk w' F' g b' ∧ Only F w w' ∧ WK w w' ∧ ∀ x ∈ F', x ∈ F ∨ w.heap.size ≤ x
theorem BkStep.refl {w : World} {F : List Nat} {g : Nat} {b : PB} (h : Bk w F g b) : BkStep w F g b w := ⟨F, h, Only.refl F w, WK.refl w, fun x hx => .inl hx⟩
theorem BkStep.below {w w' w2 : World} {F : List Nat} {g : Nat} {b : PB} (h : BkStep w F g b w') (hb : Below w'.heap.size w' w2) : BkStep w F g b w2 := by
  obtain ⟨F', h1, h2, h3, h4⟩ := h
  exact ⟨F', h1.below hb, h2.trans (Only.of_below [] hb) (fun x hx => by simp at hx), h3.trans (WK.below hb), h4⟩
/-- one cell of the bank that is no word is stored into -/
theorem wk_set {w : World} {t : TypeId} {g i : Nat} {vs : Array Value} (h : Box t w g vs) (hn : ∀ u, u ∈ vs.toList → NoW u) (v : Value) : WK w (w.setCell ⟨g, i, none⟩ v) := by
  have hk := (Keep.refl g w).setCell i v
  refine ⟨hk.size, fun k hk2 => ?_⟩
  by_cases e : k = g
  · subst e
    refine ⟨fun _ => False, fun _ _ _ h => h, fun _ h => h.elim, fun i2 u _ hu => ?_⟩
    rw [h.cell] at hu
    exact (hn u (by rw [Array.mem_toList_iff]; exact Array.mem_of_getElem? hu)).nz
  · exact ⟨fun _ => True, fun _ _ _ h => h, fun i2 _ => World.cell?_of_block (a := ⟨k, i2, none⟩) (hk.block k hk2 e), fun _ _ h => absurd trivial h⟩
theorem only_set {w : World} {F : List Nat} {g i : Nat} (hg : g ∈ F) (v : Value) : Only F w (w.setCell ⟨g, i, none⟩ v) := by
  have hk := (Keep.refl g w).setCell i v
  exact ⟨hk.os, hk.tape, hk.output, hk.size, fun k h1 h2 => hk.block k h1 (fun e => h2 (e ▸ hg))⟩
theorem box_setI {t : TypeId} {w : World} {g : Nat} {vs : Array Value} (h : Box t w g vs) (i : Nat) (v : Value) : Box t (w.setCell ⟨g, i, none⟩ v) g (vs.setIfInBounds i v) := by
  unfold Box at h ⊢
  simp [World.setCell, Array.getElem?_modify, h]
theorem ownL_noW (v : Value) {k : Nat} {V : Type} {cells : V → List Value} {t : TypeId} {w : World} {xs : List V} (h : Rw k cells t w v xs) : NoW v := by
  obtain ⟨A, c, rfl, _⟩ := h.form
  exact NoW_slice _ _ _
theorem bkCells_noW {b : PB} {va vp vm : Value} (h1 : NoW va) (h2 : NoW vp) (h3 : NoW vm) : ∀ u, u ∈ (bkCells b va vp vm).toList → NoW u := by
  intro u hu
  unfold bkCells at hu
  simp only [List.mem_cons, List.not_mem_nil, or_false] at hu
  rcases hu with rfl | rfl | rfl | rfl | rfl | rfl | rfl | rfl | rfl | rfl | rfl
  · exact NoW_i64 _
  · exact h1
  · exact h2
  · exact h3
  · exact NoW_i64 _
  · exact NoW_i64 _
  · exact NoW_i64 _
  · exact NoW_i64 _
  · exact NoW_i64 _
  · exact NoW_bool _
  · exact NoW_i64 _
/-- the rows and the blocks stay where a cell of the bank is stored into that holds no row -/
theorem BkAt.set {w : World} {F : List Nat} {g i : Nat} {b b' : PB} {va vp vm : Value} {ps : List RI} (h : BkAt w F g b va vp vm ps) (v : Value) (hc : (bkCells b va vp vm).setIfInBounds i v = bkCells b' va vp vm) (hp : b'.prog = b.prog) (hm : b'.met = b.met) (ha : b'.asks = b.asks) (hu : b'.used ≤ b.asks.length) :
    BkAt (w.setCell ⟨g, i, none⟩ v) F g b' va vp vm ps ∧ Only F w (w.setCell ⟨g, i, none⟩ v) ∧ WK w (w.setCell ⟨g, i, none⟩ v) := by
  have hg : g ∈ F := (h.own g).2 (.inl rfl)
  have ho : Only [g] w (w.setCell ⟨g, i, none⟩ v) := only_set (by simp) v
  have hk := wk_set (i := i) h.box (bkCells_noW (ownL_noW _ h.ra) (ownL_noW _ h.rp) (ownL_noW _ h.rm)) v
  have ne : ∀ {L : List Nat}, g ∉ L → ∀ x ∈ L, x ∉ [g] := fun hL x hx hy => by rw [List.mem_singleton] at hy; exact hL (hy ▸ hx)
  refine ⟨⟨hc ▸ box_setI h.box i v, ha ▸ h.ra.only ho (ne h.d1.1), h.rp.only ho (ne h.d1.2.1), hm ▸ h.rm.only ho (ne h.d1.2.2), hp ▸ h.pi, fun p hp2 => RI.tight_wk (h.ok p hp2) hk, h.own, h.d1, h.d2, hp ▸ h.pl, hm ▸ h.ml, ha ▸ hu⟩, only_set hg v, hk⟩

end Go.Proofs.YthpbaaanbimapaaGreatDoor

namespace Go.Proofs.YthpbaaanbimapaaGreatDoor
set_option maxRecDepth 100000
open Go.RowKit
set_option linter.unusedVariables false
set_option linter.unusedSimpArgs false

def PB.fail (b : PB) (e : Int) : PB := if b.err = 0 then { b with err := e } else b
theorem bk_fail {w : World} {F : List Nat} {g : Nat} {b : PB} (h : Bk w F g b) (e : Int) : Calls Tryz.prog 22 #[.pointer (some ⟨g, 0, none⟩), .int .i64 e] w (fun r w' => r = .returned (.tuple #[]) ∧ BkStep w F g (b.fail e) w') := by
  have E := bk_err h
  have HE := Lib.hid E
  have HB := Lib.hid h
  obtain ⟨va, vp, vm, ps, h⟩ := h
  obtain ⟨k0, k1, k2, k3, k4, k5, k6, k7, k8, k9, k10⟩ := h.cells
  have f10 := h.box.free 10
  have HA := Lib.hid h
  clear E h
  by_cases he : b.err = 0
  · have hf : b.fail e = { b with err := e } := by unfold PB.fail; rw [if_pos he]
    rw [hf]
    clear hf
    go_enter Tryz.func22, Tryz.ntmps22
    go_wp2_with fail
    with_reducible refine HE.out.mono ?_
    rintro _ _ ⟨rfl, rfl⟩
    go_wp2_with fail
    go_end0
    obtain ⟨h1, h2, h3⟩ := HA.out.set (i := 10) (b' := { b with err := e }) (.int .i64 e) rfl rfl rfl rfl HA.out.ul
    exact ⟨rfl, F, ⟨_, _, _, _, h1⟩, h2, h3, fun x hx => .inl hx⟩
  · have hf : b.fail e = b := by unfold PB.fail; rw [if_neg he]
    rw [hf]
    clear hf
    go_enter Tryz.func22, Tryz.ntmps22
    go_wp2_with fail
    with_reducible refine HE.out.mono ?_
    rintro _ _ ⟨rfl, rfl⟩
    go_wp2_with fail
    go_end0
    exact ⟨rfl, BkStep.refl HB.out⟩
/-- a mark, as it lies -/
def mkCells (i a m o n : Int) (t : Bool) (e : Int) : Array Value := #[.int .i64 i, .int .i64 a, .int .i64 m, .int .i64 o, .int .i64 n, .bool t, .int .i64 e]
def PB.mark (b : PB) : Array Value := mkCells b.prog.length b.used b.met.length b.ops b.ins b.tie b.err
theorem Box.seven {t : TypeId} {w : World} {g : Nat} {v0 v1 v2 v3 v4 v5 v6 : Value} (h : Box t w g #[v0, v1, v2, v3, v4, v5, v6]) :
    (w.cell? ⟨g, 0, none⟩ = some v0 ∧ w.cell? ⟨g, 1, none⟩ = some v1 ∧ w.cell? ⟨g, 2, none⟩ = some v2 ∧ w.cell? ⟨g, 3, none⟩ = some v3 ∧ w.cell? ⟨g, 4, none⟩ = some v4 ∧ w.cell? ⟨g, 5, none⟩ = some v5 ∧ w.cell? ⟨g, 6, none⟩ = some v6) ∧
    (w.frozen? ⟨g, 0, none⟩ = false ∧ w.frozen? ⟨g, 1, none⟩ = false ∧ w.frozen? ⟨g, 2, none⟩ = false ∧ w.frozen? ⟨g, 3, none⟩ = false ∧ w.frozen? ⟨g, 4, none⟩ = false ∧ w.frozen? ⟨g, 5, none⟩ = false ∧ w.frozen? ⟨g, 6, none⟩ = false) :=
  ⟨⟨h.cell 0, h.cell 1, h.cell 2, h.cell 3, h.cell 4, h.cell 5, h.cell 6⟩, h.free 0, h.free 1, h.free 2, h.free 3, h.free 4, h.free 5, h.free 6⟩
theorem below_set {B g i : Nat} {a w : World} (h : Below B a w) (hg : B ≤ g) (hB : B ≤ a.heap.size) (x : Value) : Below B a (w.setCell ⟨g, i, none⟩ x) := Below.keep h ((Keep.refl g w).setCell i x) hg hB
theorem bk_mark {w : World} {F : List Nat} {g : Nat} {b : PB} (h : Bk w F g b) : Calls Tryz.prog 34 #[.pointer (some ⟨g, 0, none⟩)] w (fun r w' => r = .returned (.agg b.mark) ∧ Below w.heap.size w w') := by
  obtain ⟨va, vp, vm, ps, h⟩ := h
  obtain ⟨V, hW, Bx, hb⟩ := box0 63 w (mkCells 0 0 0 0 0 false 0)
  obtain ⟨j0, j1, j2, j3, j4, j5, j6, j7, j8, j9, j10⟩ := (h.below hb).cells
  unfold mkCells at hW Bx
  unfold PB.mark mkCells
  obtain ⟨⟨k0, k1, k2, k3, k4, k5, k6⟩, f0, f1, f2, f3, f4, f5, f6⟩ := Bx.seven
  have HW := Lib.hid hW
  clear hW Bx h
  go_enter Tryz.func34, Tryz.ntmps34
  go_upto_region 3 with (fail)
  rw [HW.out]
  go_wp2_with fail
  refine bodyPost_ret (v := .agg #[.int .i64 b.prog.length, .int .i64 b.used, .int .i64 b.met.length, .int .i64 b.ops, .int .i64 b.ins, .bool b.tie, .int .i64 b.err]) (by simp [results, Tryz.results34, go_sem, k0, k1, k2, k3, k4, k5, k6]) rfl ?_
  refine ⟨rfl, ?_⟩
  repeat' refine below_set ?_ (Nat.le_refl _) (Nat.le_refl _) _
  exact hb

end Go.Proofs.YthpbaaanbimapaaGreatDoor
