/-
  The decimal text of an int, as the library and as the document write it: one text. What gradineref06.Int and gradineref15.Word return. Conditions: an int.
-/
import Derived.Test.YtibgpeaplmcogaaGreatDoorLnTrAllS
import Derived.Test.YtibgpeaplmcogaaGreatDoorRows
import Derived.Shelf.LaysM
import Derived.Shelf.Strconv.Itoa3
import Derived.Lib.LaidTab
import Derived.Test.YtibgpeaplmcogaaGreatDoorLnTyAllS
namespace Go.Proofs.YtibgpeaplmcogaaGreatDoor
set_option maxRecDepth 100000
open Go.RowKit Go.Maps
set_option linter.unusedVariables false
set_option linter.unusedSimpArgs false

/-- the names of the Ops, by their bytes -/
def nameL : List (List UInt8) := [[], [105, 110, 112, 117, 116], [99, 111, 110, 115, 116], [110, 101, 103], [97, 100, 100], [115, 117, 98], [109, 117, 108], [100, 105, 118], [115, 113, 114, 116], [101, 120, 112], [108, 111, 103]]
def nmS (r : Nat) : ByteArray := ⟨(nameL.getD r []).toArray⟩
/-- the variable names holds the names -/
def Nam (w : World) : Prop := 0 < w.heap.size ∧ ∀ r, r < 11 → w.cell? ⟨0, r, none⟩ = some (.string (nmS r))
theorem Nam.below {w w' : World} (h : Nam w) (b : Below w.heap.size w w') : Nam w' :=
  ⟨Nat.lt_of_lt_of_le h.1 b.size, fun r hr => (b.cell (p := ⟨0, r, none⟩) h.1).trans (h.2 r hr)⟩
theorem line_word {r : Nat} (hr : r < 11) (w : World) (hN : Nam w) :
    Calls Tryz.prog 20 #[.int .i64 (r : Int)] w fun e w' => e = .returned (.string (nmS r)) ∧ w = w' := by
  have hc := hN.2 r hr
  have BL := Lib.hid (line_below (r : Int) 11 w)
  have hd : decide (0 ≤ (r : Int) ∧ (r : Int) < 11) = true := decide_eq_true (by omega)
  rw [hd] at BL
  generalize nmS r = s at *
  clear hd hN
  go_enter Tryz.func20, Tryz.ntmps20
  go_wp2_with fail
  with_reducible refine BL.out.mono ?_
  rintro _ _ ⟨rfl, rfl⟩
  go_wp2_with fail
  go_ret
  exact ⟨rfl, rfl⟩
theorem line_word_no {op : Int} (h : ¬ (0 ≤ op ∧ op < 11)) (w : World) :
    Calls Tryz.prog 20 #[.int .i64 op] w fun e w' => e = .returned (.string ⟨#[]⟩) ∧ w = w' := by
  have BL := Lib.hid (line_below op 11 w)
  rw [decide_eq_false h] at BL
  go_enter Tryz.func20, Tryz.ntmps20
  go_wp2_with fail
  with_reducible refine BL.out.mono ?_
  rintro _ _ ⟨rfl, rfl⟩
  go_wp2_with fail
  go_ret
  exact ⟨rfl, rfl⟩
theorem small0 (w : World) : Calls Tryz.prog 197 #[.int .i64 0] w fun e w' => e = .returned (.string ⟨#[48]⟩) ∧ w = w' := by
  go_enter Tryz.func197, Tryz.ntmps197
  go_wp2
  go_ret
  exact ⟨rfl, rfl⟩
theorem format0 (w : World) : Calls Tryz.prog 129 #[.int .i64 0, .int .i64 10] w fun e w' => e = .returned (.string ⟨#[48]⟩) ∧ w = w' := by
  have H := Lib.hid (small0 w)
  go_enter Tryz.func129, Tryz.ntmps129
  go_wp2_with fail
  with_reducible refine H.out.mono ?_
  rintro _ _ ⟨rfl, rfl⟩
  go_wp2_with fail
  go_ret
  exact ⟨rfl, rfl⟩
theorem itoa0 (w : World) : Calls Tryz.prog 74 #[.int .i64 0] w fun e w' => e = .returned (.string ⟨#[48]⟩) ∧ w = w' := by
  have H := Lib.hid (format0 w)
  go_enter Tryz.func74, Tryz.ntmps74
  go_wp2_with fail
  with_reducible refine H.out.mono ?_
  rintro _ _ ⟨rfl, rfl⟩
  go_wp2_with fail
  go_ret
  exact ⟨rfl, rfl⟩
theorem sc_itoa0 (w : World) : Calls Tryz.prog 48 #[.int .i64 0] w fun e w' => e = .returned (.string ⟨#[48]⟩) ∧ w = w' := by
  have H := Lib.hid (itoa0 w)
  go_enter Tryz.func48, Tryz.ntmps48
  go_wp2_with fail
  with_reducible refine H.out.mono ?_
  rintro _ _ ⟨rfl, rfl⟩
  go_wp2_with fail
  go_ret
  exact ⟨rfl, rfl⟩
def neg0 : ByteArray := ⟨#[110, 101, 103, 32, 48]⟩
theorem neg0_eq : nmS 3 ++ ((⟨#[32]⟩ : ByteArray) ++ ⟨#[48]⟩) = neg0 := by decide +kernel

set_option maxRecDepth 100000 in
set_option maxHeartbeats 2000000 in
theorem show_neg0 (w : World) (hN : Nam w) :
    Calls Tryz.prog 24 #[.agg #[.int .i64 3, .int .i64 0, .int .i64 0, .bool false, .slice none 0 0, .slice none 0 0]] w fun e w' => e = .returned (.string neg0) ∧ Below w.heap.size w w' := by
  obtain ⟨V, hW, Bx, hb0⟩ := box0 27 w #[.int .i64 3, .int .i64 0, .int .i64 0, .bool false, .slice none 0 0, .slice none 0 0]
  have AR := fun (w1 : World) => Lib.hid (line_arity 3 w1)
  have ear : arity 3 = 1 := by decide
  rw [ear] at AR
  have WD := line_word (r := 3) (by omega) V (hN.below hb0)
  rw [show ((3 : Nat) : Int) = 3 from rfl] at WD
  have OP := line_operands (op := 3) (a := 0) (b := 0) (q := ⟨false, none, 0, 0, [], none, 0, 0, []⟩) (by unfold I64; omega) (by unfold I64; omega) V
  have eop : opsI 3 0 0 = [0] := by decide
  rw [eop] at OP
  have he := neg0_eq
  have hsz : (nmS 3).size = 3 := rfl
  generalize nmS 3 = s3 at *
  have k := Bx.six.1
  have HWD := Lib.hid WD
  have HOP := Lib.hid OP
  have HW := Lib.hid hW
  have HE := Lib.hid he
  clear WD OP hW Bx he
  go_enter Tryz.func24, Tryz.ntmps24
  go_wp2_with fail
  with_reducible refine (AR _).out.mono ?_
  rintro _ _ ⟨rfl, rfl⟩
  go_wp2_with fail
  rw [HW.out]
  obtain ⟨k0, k1, k2, k3, k4, k5⟩ := k
  with_reducible refine HWD.out.mono ?_
  rintro _ _ ⟨rfl, rfl⟩
  go_wp2_with fail
  with_reducible refine HOP.out.mono ?_
  rintro _ w2 ⟨A2, n2, c2, rfl, z2, b2⟩
  obtain rfl : n2 = 1 := z2.1.1.symm
  have HZ := Lib.hid z2
  clear z2 HOP HWD AR k0 k1 k2 k3 k4 k5
  go_wp2_with fail
  go_loopw [3, 41] (fun tv iv wr => ∃ s : ByteArray, tv = .string s ∧ Below w2.heap.size w2 wr ∧ ((iv = .int .i64 0 ∧ s = s3) ∨ (iv = .int .i64 1 ∧ s = neg0))) (fun _ iv _ => 1 - mes iv)
  case atStart => exact ⟨_, rfl, Below.refl _ _, .inl ⟨rfl, rfl⟩⟩
  case round =>
    obtain ⟨s, rfl, hb, ⟨rfl, rfl⟩ | ⟨rfl, rfl⟩⟩ := hrel
    · obtain ⟨b0, off, x, rfl, hlt, hx, hoi, c0⟩ := (HZ.out.below hb).at_ (j := 0) (by omega)
      obtain rfl : x = 0 := by simpa using hx.symm
      have c0' : wr.cell? ⟨b0, off, none⟩ = some (.int .i64 0) := c0
      have IT := Lib.hid (sc_itoa0 wr)
      clear c0 hx hoi
      go_wp2_with fail
      with_reducible refine IT.out.mono ?_
      rintro _ _ ⟨rfl, rfl⟩
      go_wp2_with fail
      go_roundw
      case rel => exact ⟨_, rfl, hb, .inr ⟨by go_num, HE.out⟩⟩
      case measure => simp [mes, intOf]
    · go_wp2_with fail
      go_ret
      exact ⟨rfl, bb hb0 (bb b2 hb)⟩

def M3 : List RI := [ins0 1, ins0 3, ins0 6]
def D3 : Array Value := #[.int .i64 1, .int .i64 0, .int .i64 0, .bool false, .slice none 0 0, .slice none 0 0, .int .i64 3, .int .i64 0, .int .i64 0, .bool false, .slice none 0 0, .slice none 0 0, .int .i64 6, .int .i64 0, .int .i64 0, .bool false, .slice none 0 0, .slice none 0 0]
theorem M3_new (w : World) : SlP (w.alloc (.cells D3 27)) (some ⟨w.heap.size, 0, none⟩) 3 3 M3 := by
  refine SlC.new w D3 27 M3 (fun x _ => rfl) rfl (fun x hx => ?_) (by unfold maxLen; simp [M3])
  unfold M3 at hx
  simp only [List.mem_cons, List.not_mem_nil, or_false] at hx
  rcases hx with rfl | rfl | rfl <;> exact ins0_ok _ (by unfold I64; omega)
theorem M3_sh (N : Nat) : Shrt N M3 := ins0_sh (fun x hx => by
  unfold M3 at hx
  simp only [List.mem_cons, List.not_mem_nil, or_false] at hx
  rcases hx with rfl | rfl | rfl <;> exact ⟨_, rfl⟩)
theorem M3_prog : IsProg vq nq (M3.map RI.pi) := by
  refine ⟨fun i hi => ?_, by decide⟩
  have hi' : i < 3 := hi
  have h3 : i = 0 ∨ i = 1 ∨ i = 2 := by omega
  rcases h3 with rfl | rfl | rfl
  · show fits vq nq ⟨1, 0, 0, (false, [], [])⟩ 0
    simp [fits, nq]
  · show fits vq nq ⟨3, 0, 0, (false, [], [])⟩ 1
    simp [fits, nq, arity]
  · show fits vq nq ⟨6, 0, 0, (false, [], [])⟩ 2
    simp [fits, nq, arity]
theorem M3_trim {mk : Nat → Bool} (h : IsNeed (M3.map RI.pi) [2, 9] mk) : trimL (M3.map RI.pi) mk = [⟨1, 0, 0, (false, [], [])⟩, ⟨6, 0, 0, (false, [], [])⟩] ∧ trimO (M3.map RI.pi) mk [2, 9] = [1, -1] := by
  have h2 : mk 2 = true := (h 2 (by decide)).2 (.inl (by decide))
  have h1 : mk 1 = false := by
    rw [Bool.eq_false_iff]
    intro hh
    rcases (h 1 (by decide)).1 hh with g | ⟨k, k1, k2, k3, k4⟩
    · exact absurd g (by decide)
    · have k2' : k < 3 := k2
      obtain rfl : k = 2 := by omega
      have k5 : Uses ⟨6, 0, 0, (false, [], [])⟩ 1 := k4
      unfold Uses at k5
      simp [arity] at k5
  have h0 : mk 0 = true := (h 0 (by decide)).2 (.inr ⟨2, by omega, by decide, h2, by
    show Uses ⟨6, 0, 0, (false, [], [])⟩ 0
    unfold Uses
    simp [arity]⟩)
  constructor
  · show trimTo _ mk 3 = _
    simp only [trimTo, h0, h1, h2, if_true, if_false, Bool.false_eq_true]
    show [ren mk ⟨1, 0, 0, (false, [], [])⟩] ++ [ren mk ⟨6, 0, 0, (false, [], [])⟩] = _
    simp [ren, arity, cnt]
  · show [newAt 3 mk 2, newAt 3 mk 9] = _
    simp [newAt, cnt, h0, h1]

set_option maxRecDepth 100000 in
set_option maxHeartbeats 4000000 in
theorem same15 (w : World) (hN : Nam w) : Calls Tryz.prog 10 #[] w (RetBl true w) := by
  obtain ⟨V1, e1⟩ : ∃ V1, w.alloc (.cells #[.int .i64 1, .int .i64 0, .int .i64 0, .bool false, .slice none 0 0, .slice none 0 0, .int .i64 3, .int .i64 0, .int .i64 0, .bool false, .slice none 0 0, .slice none 0 0, .int .i64 6, .int .i64 0, .int .i64 0, .bool false, .slice none 0 0, .slice none 0 0] 27) = V1 := ⟨_, rfl⟩
  have p1 : SlP V1 (some ⟨w.heap.size, 0, none⟩) 3 3 M3 := by rw [← e1]; exact M3_new w
  have b1 : Below w.heap.size w V1 := by rw [← e1]; exact below_alloc _ _
  have s1 : V1.heap.size = w.heap.size + 1 := by rw [← e1]; simp
  obtain ⟨V2, e2⟩ : ∃ V2, V1.alloc (.cells #[.int .i64 2, .int .i64 9] 3) = V2 := ⟨_, rfl⟩
  have b2 : Below V1.heap.size V1 V2 := by rw [← e2]; exact below_alloc _ _
  have z2 : SlZ V2 (some ⟨w.heap.size + 1, 0, none⟩) 2 2 [2, 9] := by
    have h9 := two_new w V2 (w.heap.size + 1) 2 9 3 (by unfold I64; omega) (by unfold I64; omega) (by rw [← e2, ← s1]; exact Box.new V1 _ _) 2 (by omega)
    exact h9
  rw [← e1] at e2
  have TR := line_Trim (p1.below b2) (M3_sh 8) (by omega) z2 (by omega) (by omega) M3_prog
  have RT := fun (w1 : World) (hb : Below V2.heap.size V2 w1) => line_right ((p1.below b2).below hb) (M3_sh 8) (by omega) (by omega)
  rw [(progB_iff _).2 M3_prog] at RT
  have SH := fun (w1 : World) (hb : Below V2.heap.size V2 w1) => show_neg0 w1 (hN.below (bb b1 (bb b2 hb)))
  have HTR := Lib.hid TR
  have HRT := Lib.hid RT
  have HSH := Lib.hid SH
  have HV := Lib.hid e2
  have HP := Lib.hid p1
  clear TR RT SH e2 e1 p1 z2 s1
  go_enter Tryz.func10, Tryz.ntmps10
  go_wp2_with fail
  rw [HV.out]
  with_reducible refine HTR.out.mono ?_
  rintro _ w3 ⟨mk, hnd, A1, n1, c1, ys, A2, n2, c2, rfl, p3, ht, _, z3, b3⟩
  obtain ⟨t1, t2⟩ := M3_trim hnd
  rw [t1] at ht
  rw [t2] at z3
  have hn1 : n1 = 2 := by
    have h9 := congrArg List.length ht
    rw [List.length_map, p3.1.1] at h9
    exact h9
  have hn2 : n2 = 2 := z3.1.1.symm
  subst hn1 hn2
  have HP3 := Lib.hid p3
  have HZ3 := Lib.hid z3
  have HT := Lib.hid ht
  clear p3 z3 ht t1 t2 hnd HTR HV
  go_wp2_with fail
  with_reducible refine (HRT.out _ b3).mono ?_
  rintro _ w4 ⟨rfl, b4⟩
  obtain ⟨g1, o1, x1, rfl, hg1, hx1, _, k0, k1, k2, k3, k4, k5⟩ := (HP3.out.below b4).at_ (j := 1) (by omega)
  have hop : x1.op = 6 := by
    have h9 := congrArg (fun l : List PI => (l.getD 1 PI.nil).op) HT.out
    rw [pi_at hx1] at h9
    exact h9
  rw [hop] at k0
  obtain ⟨g2, o2, x2, e9, hg2, hx2, _, j0⟩ := (HZ3.out.below b4).at_ (j := 0) (by omega)
  obtain ⟨g3, o3, x3, e8, hg3, hx3, _, j1⟩ := (HZ3.out.below b4).at_ (j := 1) (by omega)
  rw [Nat.add_zero] at j0
  subst e9
  injection e8 with e8
  injection e8 with e6 e7
  subst e6 e7
  obtain rfl : x2 = 1 := by simpa using hx2.symm
  obtain rfl : x3 = -1 := by simpa using hx3.symm
  obtain ⟨g4, o4, x4, e5, hg4, hx4, _, i0, i1, i2, i3, i4, i5⟩ := ((HP.out.below b2).below (bb b3 b4)).at_ (j := 1) (by omega)
  injection e5 with e5
  injection e5 with e6 e7
  subst e6 e7
  obtain rfl : x4 = ins0 3 := by simpa [M3] using hx4.symm
  unfold ins0 at i0 i1 i2 i3 i4 i5
  simp only [Nat.one_mul, Nat.zero_add, Nat.reduceAdd] at i0 i1 i2 i3 i4 i5
  clear hx1 hx2 hx3 hx4 k1 k2 k3 k4 k5 hop
  go_wp2_with fail
  with_reducible refine (HSH.out _ (bb b3 b4)).mono ?_
  rintro _ w5 ⟨rfl, b5⟩
  unfold neg0
  go_wp2_with fail
  go_ret
  exact ⟨rfl, bb b1 (bb b2 (bb b3 (bb b4 b5)))⟩

end Go.Proofs.YtibgpeaplmcogaaGreatDoor

namespace Go.Proofs.YtibgpeaplmcogaaGreatDoor
set_option maxRecDepth 100000
open Go.RowKit Go.Sort Go.Lib Go.Shelf
set_option linter.unusedVariables false
set_option linter.unusedSimpArgs false

def itoaRen : Go.Shelf.Ren := ⟨fun | 171 => 48 | 243 => 74 | 246 => 129 | 283 => 197 | 284 => 198 | 285 => 199 | 286 => 200 | 129 => 230 | 317 => 229 | 318 => 231 | 319 => 232 | 320 => 233 | 337 => 245 | 338 => 246 | n => n, fun | 3 => 3 | 9 => 9 | 2 => 2 | 4 => 4 | 171 => 152 | 0 => 0 | 53 => 76 | 37 => 111 | 5 => 5 | 173 => 154 | 212 => 174 | 51 => 175 | 20 => 20 | 213 => 176 | 46 => 134 | 232 => 192 | 233 => 193 | n => n, fun | 17 => 2 | 18 => 5 | 19 => 6 | n => n⟩
theorem itoaLays : Go.Proofs.LaysM.n171 Tryz.prog itoaRen := {
  mixed := by kernel_rfl
  f129 := Tryz.func230.trans (congrArg some (by kernel_rfl))
  f171 := Tryz.func48.trans (congrArg some (by kernel_rfl))
  f243 := Tryz.func74.trans (congrArg some (by kernel_rfl))
  f246 := Tryz.func129.trans (congrArg some (by kernel_rfl))
  f283 := Tryz.func197.trans (congrArg some (by kernel_rfl))
  f284 := Tryz.func198.trans (congrArg some (by kernel_rfl))
  f285 := Tryz.func199.trans (congrArg some (by kernel_rfl))
  f286 := Tryz.func200.trans (congrArg some (by kernel_rfl))
  f317 := Tryz.func229.trans (congrArg some (by kernel_rfl))
  f318 := Tryz.func231.trans (congrArg some (by kernel_rfl))
  f319 := Tryz.func232.trans (congrArg some (by kernel_rfl))
  f320 := Tryz.func233.trans (congrArg some (by kernel_rfl))
  f337 := Tryz.func245.trans (congrArg some (by kernel_rfl))
  f338 := Tryz.func246.trans (congrArg some (by kernel_rfl))
  t0 := Tryz.underlying0
  a0 := Tryz.isAgg0
  z0 := Tryz.sizeOf0
  v0 := Tryz.zeroValue0
  t2 := Tryz.underlying2
  a2 := Tryz.isAgg2
  z2 := Tryz.sizeOf2
  v2 := Tryz.zeroValue2
  t3 := Tryz.underlying3
  a3 := Tryz.isAgg3
  z3 := Tryz.sizeOf3
  v3 := Tryz.zeroValue3
  t4 := Tryz.underlying4
  a4 := Tryz.isAgg4
  z4 := Tryz.sizeOf4
  v4 := Tryz.zeroValue4
  t5 := Tryz.underlying5
  a5 := Tryz.isAgg5
  z5 := Tryz.sizeOf5
  v5 := Tryz.zeroValue5
  t9 := Tryz.underlying9
  a9 := Tryz.isAgg9
  z9 := Tryz.sizeOf9
  v9 := Tryz.zeroValue9
  t20 := Tryz.underlying20
  a20 := Tryz.isAgg20
  z20 := Tryz.sizeOf20
  v20 := Tryz.zeroValue20
  t37 := Tryz.underlying111
  a37 := Tryz.isAgg111
  z37 := Tryz.sizeOf111
  v37 := Tryz.zeroValue111
  t46 := Tryz.underlying134
  a46 := Tryz.isAgg134
  z46 := Tryz.sizeOf134
  v46 := Tryz.zeroValue134
  t51 := Tryz.underlying175
  a51 := Tryz.isAgg175
  z51 := Tryz.sizeOf175
  v51 := Tryz.zeroValue175
  t53 := Tryz.underlying76
  a53 := Tryz.isAgg76
  z53 := Tryz.sizeOf76
  v53 := Tryz.zeroValue76
  t171 := Tryz.underlying152
  a171 := Tryz.isAgg152
  z171 := Tryz.sizeOf152
  v171 := Tryz.zeroValue152
  t173 := Tryz.underlying154
  a173 := Tryz.isAgg154
  z173 := Tryz.sizeOf154
  v173 := Tryz.zeroValue154
  t212 := Tryz.underlying174
  a212 := Tryz.isAgg174
  z212 := Tryz.sizeOf174
  v212 := Tryz.zeroValue174
  t213 := Tryz.underlying176
  a213 := Tryz.isAgg176
  z213 := Tryz.sizeOf176
  t232 := Tryz.underlying192
  a232 := Tryz.isAgg192
  z232 := Tryz.sizeOf192
  v232 := Tryz.zeroValue192
  t233 := Tryz.underlying193
  a233 := Tryz.isAgg193
  z233 := Tryz.sizeOf193
  v233 := Tryz.zeroValue193
  g17 := by kernel_rfl
  g18 := by kernel_rfl
  g19 := by kernel_rfl
  i0 := by kernel_rfl
  i2 := by kernel_rfl
  i3 := by kernel_rfl
  i4 := by kernel_rfl
  i5 := by kernel_rfl
  i9 := by kernel_rfl
  i20 := by kernel_rfl
  i37 := by kernel_rfl
  i46 := by kernel_rfl
  i51 := by kernel_rfl
  i53 := by kernel_rfl
  i171 := by kernel_rfl
  i173 := by kernel_rfl
  i212 := by kernel_rfl
  i232 := by kernel_rfl
  i233 := by kernel_rfl
  m17 := by kernel_rfl
  m18 := by kernel_rfl
  m19 := by kernel_rfl }

/-- the table of powers of ten lies as the row lists it -/
def Pw (w : World) : Prop := Lib.TabIs Tryz.prog w ((Rows.lineTellsRow.laid.map Prod.fst).getD 2 Rows.lineTellsRow.spec) .u64 Lib.pow10Tab
theorem pw_global : Tryz.prog.globalNamed ((Rows.lineTellsRow.laid.map Prod.fst).getD 2 Rows.lineTellsRow.spec) = some 2 := by kernel_rfl
theorem Pw.below {w w' : World} (h : Pw w) (hb : Below w.heap.size w w') : Pw w' := by
  unfold Pw Lib.TabIs World.var? at *
  rw [pw_global] at *
  simp only [Option.bind_some] at *
  have hlt : 2 < w.heap.size := by
    rcases Nat.lt_or_ge 2 w.heap.size with h9 | h9
    · exact h9
    · rw [Array.getElem?_eq_none h9] at h; cases h
  rw [hb.block _ hlt]
  exact h
theorem below_grow (w : World) (k : Nat) (os : Array Obj) : Below w.heap.size w (grow (w.drewN k) os) := by
  refine ⟨rfl, rfl, rfl, ?_, fun b hb => ?_⟩
  · show w.heap.size ≤ (w.heap ++ os).size
    simp
  · show (w.heap ++ os)[b]? = w.heap[b]?
    rw [Array.getElem?_append, if_pos hb]
theorem sc_itoa {n : Int} (h : I64 n) (w : World) (hp : Pw w) : Calls Tryz.prog 48 #[.int .i64 n] w fun e w' => e = .returned (.string ⟨(Lib.itoa n).toArray⟩) ∧ Below w.heap.size w w' := by
  have H := Any.strconv_Itoa itoaLays n h.1 h.2 w hp
  refine H.mono ?_
  rintro _ _ ⟨rfl, k, os, rfl⟩
  exact ⟨rfl, below_grow _ _ _⟩

end Go.Proofs.YtibgpeaplmcogaaGreatDoor

namespace Go.Proofs.YtibgpeaplmcogaaGreatDoor
set_option maxRecDepth 100000
open Go.RowKit
set_option linter.unusedVariables false
set_option linter.unusedSimpArgs false

theorem Cl.sl {w : World} {g c : Nat} {zs : List Int} (h : Cl .u64 w g zs) (hg : g < w.heap.size) (hu : ∀ x ∈ zs, U x) (hc : zs.length ≤ c) : Sl w (some ⟨g, 0, none⟩) zs.length c zs :=
  ⟨⟨rfl, hc, hu⟩, fun _ => ⟨g, 0, rfl, hg, fun j hj => by rw [Nat.zero_add]; exact (h j hj).1⟩⟩

/-- a call that returns a number by ten, and what is left -/
def RetTen (v : Nat) (w : World) (e : Ending) (w' : World) : Prop := ∃ A n c, e = .returned (.tuple #[.slice A n c, .int .i64 ((v % 10 : Nat) : Int)]) ∧ Sl w' A n c (words (v / 10)) ∧ Below w.heap.size w w'
theorem RetTen.of {v n c q : Nat} {A : Option Addr} {r : Int} {w w' : World} (hr : r = ((v % 10 : Nat) : Int)) (hq : q = v / 10) (hs : Sl w' A n c (words q)) (hb : Below w.heap.size w w') : RetTen v w (.returned (.tuple #[.slice A n c, .int .i64 r])) w' := by
  subst hr hq; exact ⟨A, n, c, rfl, hs, hb⟩
theorem Own.cap {t : TypeId} {base : Nat} {w : World} {A : Option Addr} {n c : Nat} {zs : List Int} (h : Own t base w (.slice A n c) zs) : n ≤ c := by
  obtain ⟨h1, h2⟩ := h
  rcases h2 with ⟨e, h0⟩ | ⟨g, cap, cur, e, hg, hh, hnc, r⟩
  · injection e with _ e2 e3; omega
  · injection e with _ e2 e3; omega

set_option maxHeartbeats 1000000 in
theorem ref_ten {w : World} {A : Option Addr} {n c : Nat} {xs : List Int} (h : Sl w A n c xs) (hn : n ≤ 10000) (h0 : 0 < val xs) :
    Calls Tryz.prog 131 #[.slice A n c] w (RetTen (val xs) w) := by
  have hll := hwords_len (Dg_U h.us) rfl
  have hlen := h.len
  have HH := Lib.hid (ref_halves_own h (by omega))
  have hvh := valH_hwords (val xs)
  have hdh := hwords_Dg (val xs)
  have hne : 0 < (hwords (val xs)).length := by
    rcases Nat.eq_zero_or_pos (hwords (val xs)).length with e | e
    · rw [List.eq_nil_of_length_eq_zero e] at hvh
      have : valB H [] = 0 := rfl
      omega
    · exact e
  obtain ⟨v, ev⟩ : ∃ v, val xs = v := ⟨_, rfl⟩
  rw [ev] at HH hvh hdh hne hll
  rw [ev]
  generalize hwords v = hs at *
  obtain ⟨m, em⟩ : ∃ m, hs.length = m := ⟨_, rfl⟩
  have hm : m ≤ 20000 := by omega
  have hm0 : 0 < m := by omega
  have HVH := Lib.hid hvh
  have HDH := Lib.hid hdh
  have HEM := Lib.hid em
  clear h hvh hdh em hne hll hlen h0 ev
  go_enter Tryz.func131, Tryz.ntmps131
  go_wp2_with fail
  refine HH.out.mono ?_
  rintro e w1 ⟨x, rfl, ho, b1⟩
  obtain ⟨g, cap, rfl, hg, hg', hcl⟩ := ho.cl (by rw [HEM.out]; exact hm0)
  have hcap := ho.cap
  rw [HEM.out] at hcap ⊢
  have HCL := Lib.hid hcl
  clear ho hcl HH
  go_wp2_with fail
  go_loopw [5, 6] (fun rv iv wr => ∃ (k : Nat) (j r : Int) (qs : List Int), k ≤ m ∧ j + 1 ≤ k ∧ (k : Int) ≤ j + 1 ∧ iv = .int .i64 j ∧ rv = .int .u64 r ∧ Hid (TenInv hs k r qs) ∧ Hid (Cl .u64 wr g qs) ∧ Below w.heap.size w wr ∧ g < wr.heap.size) (fun _ iv _ => (intOf iv + 1).toNat)
  case atStart => exact ⟨m, _, 0, hs, by omega, by omega, by omega, rfl, rfl, Lib.hid (by have := tenInv_0 HDH.out; rw [HEM.out] at this; exact this), HCL, b1, hg'⟩
  case round =>
    clear HCL hg' b1
    obtain ⟨k, j, r, qs, hk, hj1, hj2, rfl, rfl, HT, HC, hb, hgw⟩ := hrel
    have hlq : qs.length = m := by rw [HT.out.1]; exact HEM.out
    by_cases hk0 : k = 0
    · subst hk0
      obtain rfl : j = -1 := by omega
      obtain ⟨e1, e2⟩ := tenInv_end HT.out
      have hdq := HT.out.2.1
      have hr0 := HT.out.2.2.1
      have hr9 := HT.out.2.2.2.1
      have hsl := HC.out.sl (c := cap) hgw (U_Dg (hdq.mono H_le_W)) (by omega)
      rw [hlq] at hsl
      have WH := ref_whole hsl hdq (by omega)
      rw [HVH.out] at e1 e2
      generalize valB H qs = q at *
      have HWH := Lib.hid WH
      have HE1 := Lib.hid e1
      have HE2 := Lib.hid e2
      clear WH e1 e2 hsl hdq hlq HT HC
      go_wp2_with fail
      refine HWH.out.mono ?_
      rintro e w2 ⟨A2, n2, c2, rfl, s2, b2⟩
      go_wp2_with fail
      go_ret2
      exact RetTen.of HE2.out HE1.out s2 (hb.trans (b2.mono hb.size))
    · obtain ⟨i, rfl⟩ : ∃ i, k = i + 1 := ⟨k - 1, by omega⟩
      obtain rfl : j = (i : Int) := by omega
      have hin : i < m := by omega
      have hcell := (HC.out i (by omega)).1
      have hfree := (HC.out i (by omega)).2
      have hr0 := HT.out.2.2.1
      have hr9 := HT.out.2.2.2.1
      have hxb := HT.out.2.1.at_ H_pos i
      obtain ⟨y, ey⟩ : ∃ y, qs.getD i 0 = y := ⟨_, rfl⟩
      obtain ⟨cc, ec⟩ : ∃ cc : Int, r * 4294967296 + y = cc := ⟨_, rfl⟩
      have hst := tenInv_step (c := cc) HDH.out HT.out (by rw [HEM.out]; exact hin) (by rw [ey]; exact ec.symm)
      rw [ey] at hcell hxb
      have hy : 0 ≤ y ∧ y < 4294967296 := hxb
      obtain ⟨hst1, hc0, hc1⟩ := hst
      have hor : bits BinOp.or IntKind.u64 (r * 4294967296) y = cc := by rw [← ec]; exact or32 (by unfold U; omega) (by omega) hy.1 hy.2
      rw [Int.tmod_eq_emod_of_nonneg hc0, Int.tdiv_eq_ediv_of_nonneg hc0] at hst1
      have hcs := HC.out.set i (by omega) (cc / 10)
      have HS := Lib.hid hst1
      have HCS := Lib.hid hcs
      clear hst1 hcs ey ec hxb HT HC hlq hj1 hj2
      go_wp2_with fail
      go_roundw
      case rel => exact ⟨i, _, _, _, by omega, by omega, by omega, rfl, rfl, HS, HCS, hb.setCell hg _, by simpa using hgw⟩
      case measure => simp [intOf]

end Go.Proofs.YtibgpeaplmcogaaGreatDoor

namespace Go.Proofs.YtibgpeaplmcogaaGreatDoor
set_option maxRecDepth 100000
open Go.RowKit
set_option linter.unusedVariables false
set_option linter.unusedSimpArgs false

theorem by_append (a b : ByteArray) : by_ (a ++ b) = by_ a ++ by_ b := by
  obtain ⟨l, rfl⟩ : ∃ l, a = str l := ⟨_, (str_by a).symm⟩
  obtain ⟨k, rfl⟩ : ∃ k, b = str k := ⟨_, (str_by b).symm⟩
  have : str l ++ str k = str (l ++ k) := ByteArray.mk_append_mk l k
  rw [this]
  rfl
/-- the ten digits -/
def ds : ByteArray := ⟨#[48, 49, 50, 51, 52, 53, 54, 55, 56, 57]⟩
theorem ds_at (d : Nat) (h : d < 10) : by_ (ds.extract d (d + 1)) = [dig8 d] := by
  rcases d with _ | _ | _ | _ | _ | _ | _ | _ | _ | _ | d
  all_goals first | decide | omega
theorem txt0_len_W {v N : Nat} (h : v < W ^ N) : (txt0 v).length ≤ 20 * N := by
  refine txt0_len ?_
  have := Nat.pow_le_pow_left W_le_ten N
  rw [← Nat.pow_mul] at this
  omega

set_option maxRecDepth 100000 in
set_option maxHeartbeats 1000000 in
theorem ref_show {w : World} {A : Option Addr} {n c N : Nat} {xs : List Int} (h : Sl w A n c xs) (hn : n ≤ N) (hN : N ≤ 1000) :
    Calls Tryz.prog 75 #[.slice A n c] w (RetS (txt (val xs)) w) := by
  have va : val xs < W ^ N := val_lt_pow h.us (by have := h.len; omega)
  have hlw := txt0_len_W va
  have HTR := Lib.hid (ref_trim h (by omega))
  generalize val xs = v at *
  have HV := Lib.hid va
  have HLW := Lib.hid hlw
  clear va h hlw
  go_enter Tryz.func75, Tryz.ntmps75
  go_wp2_with fail
  refine HTR.out.mono ?_
  rintro e w1 ⟨A1, n1, c1, rfl, s1, b1⟩
  go_wp2_with fail
  go_loopw [0, 4] (fun av ov wr => ∃ (m : Nat) (A : Option Addr) (n c : Nat) (o : ByteArray), av = .slice A n c ∧ ov = .string o ∧ Sl wr A n c (words m) ∧ Hid (txt0 m ++ by_ o = txt0 v) ∧ Hid (m ≤ v) ∧ Below w.heap.size w wr) (fun av _ wr => mesV av wr)
  case atStart => exact ⟨v, _, _, _, _, rfl, rfl, s1, Lib.hid (List.append_nil _), Lib.hid (Nat.le_refl _), b1⟩
  case round =>
    clear s1 b1 HTR
    obtain ⟨m, A, n, c, o, rfl, rfl, s, HT, HM, hb⟩ := hrel
    have hnw := words_nil_iff s.len
    by_cases h0 : n = 0
    · subst h0
      obtain rfl : m = 0 := hnw.1 rfl
      have ho : by_ o = txt0 v := by have := HT.out; rw [txt0_zero, List.nil_append] at this; exact this
      have htx := txt_of ho
      by_cases hv0 : by_ o = []
      · rw [if_pos hv0] at htx
        obtain rfl : o = ⟨#[]⟩ := by rw [← str_by o, hv0]; rfl
        have HX := Lib.hid htx
        clear htx hv0 ho hnw HT
        go_wp2_with fail
        go_ret
        exact ⟨_, rfl, HX.out, hb⟩
      · rw [if_neg hv0] at htx
        have e3 : ¬ o.toList = [] := by rw [toList_by]; exact hv0
        have e2 : o.toList.isEmpty = false := by
          cases h : o.toList with
          | nil => exact absurd h e3
          | cons => rfl
        have HX := Lib.hid htx
        clear htx hv0 ho hnw HT
        go_wp2_with fail
        go_ret
        exact ⟨_, rfl, HX.out, hb⟩
    · have hnp : 0 < n := by omega
      have hmp : m ≠ 0 := fun e => h0 (hnw.2 e)
      have hmW := Nat.lt_of_le_of_lt HM.out HV.out
      have hnN : n ≤ N := s.small hmW
      have TN := ref_ten s (by omega) (by rw [val_words]; omega)
      rw [val_words] at TN
      have hms := mesV_val s
      rw [val_words] at hms
      have hst := txt0_step hmp
      have hlt : m / 10 < m := by omega
      have hle : m / 10 ≤ v := by have := HM.out; omega
      have hos : o.size ≤ 20000 := by
        have h1 := congrArg List.length HT.out
        rw [List.length_append, by_length] at h1
        have := HLW.out
        omega
      obtain ⟨d, ed⟩ : ∃ d, m % 10 = d := ⟨_, rfl⟩
      have hd : d < 10 := by omega
      have hda := ds_at d hd
      have hnt : txt0 (m / 10) ++ by_ (ds.extract d (d + 1) ++ o) = txt0 v := by
        rw [by_append, hda, ← List.append_assoc, ← ed, ← hst]
        exact HT.out
      have hds : (ds.extract d (d + 1)).size = 1 := by rw [← by_length, hda]; rfl
      have HTN := Lib.hid TN
      have HMS := Lib.hid hms
      have HLT := Lib.hid hlt
      have HLE := Lib.hid hle
      have HNT := Lib.hid hnt
      have HDS := Lib.hid hds
      have HED := Lib.hid ed
      clear TN hms hst hlt hle hnt hnw hmp hmW hda hds ed s
      go_wp2_with fail
      refine HTN.out.mono ?_
      rintro e w2 ⟨A2, n2, c2, rfl, s2, b2⟩
      have hb2 := hb.trans (b2.mono hb.size)
      rw [HED.out]
      have hm2 := mesV_val s2
      rw [val_words] at hm2
      have HM2 := Lib.hid hm2
      have hds := HDS.out
      unfold ds at hds
      clear hm2 b2 HTN
      go_wp2_with fail
      go_roundw
      case rel => exact ⟨_, _, _, _, _, rfl, rfl, s2, HNT, HLE, hb2⟩
      case measure => rw [HM2.out, HMS.out]; exact HLT.out

end Go.Proofs.YtibgpeaplmcogaaGreatDoor

namespace Go.Proofs.YtibgpeaplmcogaaGreatDoor
set_option maxRecDepth 100000
open Go.RowKit
set_option linter.unusedVariables false
set_option linter.unusedSimpArgs false

theorem txt_size {s : ByteArray} {v : Nat} (h : by_ s = txt v) (hv : v < W ^ 20) : s.size ≤ 400 := by
  have h1 : (txt v).length ≤ 20 * 20 := txt_len (words20 hv) (by omega)
  rw [← by_length, h]; omega
/-- the text without what follows -/
def txtA (X : Rat) : List UInt8 := (if neg_ X then [45] else []) ++ txt X.num.natAbs
theorem txtQ_one {X : Rat} (h : X.den = 1) : txtQ X = txtA X := by unfold txtQ txtA; rw [if_pos h, List.append_nil]
theorem txtQ_more {X : Rat} (h : X.den ≠ 1) : txtQ X = txtA X ++ (47 :: txt X.den) := by unfold txtQ txtA; rw [if_neg h]
theorem by_minus (s : ByteArray) : by_ ((⟨#[45]⟩ : ByteArray) ++ s) = 45 :: by_ s := by rw [by_append]; rfl
theorem by_slash (s : ByteArray) : by_ ((⟨#[47]⟩ : ByteArray) ++ s) = 47 :: by_ s := by rw [by_append]; rfl
theorem by_slash' (s : ByteArray) : by_ (s ++ (⟨#[47]⟩ : ByteArray)) = by_ s ++ [47] := by rw [by_append]; rfl

set_option maxRecDepth 100000 in
set_option maxHeartbeats 4000000 in
theorem pw_show {w : World} {s : Bool} {A A' : Option Addr} {n n' c c' : Nat} {X : Rat} (h : Q w s A n c A' n' c' X) (hX : Sz X 20) :
    Calls Tryz.prog 47 #[.agg #[.bool s, .slice A n c, .slice A' n' c']] w (RetS (txtQ X) w) := by
  obtain ⟨V, hW, Ba, hb0⟩ := box0 25 w #[.bool s, .slice A n c, .slice A' n' c']
  have l1 : n ≤ 20 := h.2.1.small hX.1
  have l2 : n' ≤ 20 := h.2.2.small hX.2
  have S1 := fun w1 (hb : Below V.heap.size V w1) => digit_show (N := 20) (h.2.1.below (bb hb0 hb)) l1 (by omega)
  have S2 := fun w1 (hb : Below V.heap.size V w1) => digit_show (N := 20) (h.2.2.below (bb hb0 hb)) l2 (by omega)
  simp only [val_words] at S1 S2
  have O1 := fun w1 => nat_of 1 U_1 w1
  rw [show (1 : Int).toNat = 1 from rfl] at O1
  have CM := fun (w1 : World) (hb : Below V.heap.size V w1) (C : Option Addr) (a b : Nat) (y : Sl w1 C a b (words 1)) => nat_cmp (h.2.2.below (bb hb0 hb)) y (by omega) (by have := y.small (k := 1) (by rw [Nat.pow_one]; unfold W; omega); omega)
  simp only [val_words] at CM
  have ez := cmpN_zero X.den 1
  have hS : ∀ w', Below V.heap.size V w' → w'.cell? ⟨w.heap.size, 0, none⟩ = some (.bool s) ∧ w'.cell? ⟨w.heap.size, 1, none⟩ = some (.slice A n c) ∧ w'.cell? ⟨w.heap.size, 2, none⟩ = some (.slice A' n' c') := fun w' hb => (Ba.below' hb).three.1
  have hta : txtA X = (if s then [45] else []) ++ txt X.num.natAbs := by unfold txtA; rw [← h.1]
  have z1 := hX.1
  have z2 := hX.2
  have HS1 := Lib.hid S1
  have HS2 := Lib.hid S2
  have HO1 := Lib.hid O1
  have HCM := Lib.hid CM
  have HS := Lib.hid hS
  have HW := Lib.hid hW
  have HTA := Lib.hid hta
  have HZ1 := Lib.hid z1
  have HZ2 := Lib.hid z2
  clear S1 S2 O1 CM hS Ba hW h hX hta z1 z2
  by_cases h1 : X.den = 1
  · rw [decide_eq_true h1] at ez
    have ez2 : cmpN X.den 1 = 0 := by simpa using ez
    have HT := Lib.hid (txtQ_one h1)
    rw [ez2] at HCM
    clear ez ez2 h1
    cases s
    all_goals
      go_enter Tryz.func47, Tryz.ntmps47
      go_wp2_with fail
      rw [HW.out]
      clear HW
      refine (HS1.out _ (Below.refl _ _)).mono ?_
      rintro _ w1 ⟨t1, rfl, e1, b1⟩
      have q1 := txt_size e1 HZ1.out
      have HE1 := Lib.hid e1
      clear e1
      obtain ⟨k0, k1, k2⟩ := HS.out _ b1
      go_wp2_with fail
      first
      | (go_region_held3 (fun w' => w'.cell? ⟨w.heap.size, 0, none⟩ = some (.bool false) ∧ w'.cell? ⟨w.heap.size, 1, none⟩ = some (.slice A n c) ∧ w'.cell? ⟨w.heap.size, 2, none⟩ = some (.slice A' n' c')) (first | exact HS.out _ b1.drew | exact HS.out _ x2 | fail)
          (first
            | (go_at_call 73; (with_reducible refine (HO1.out _).mono ?_); rintro _ w2 ⟨A2, n2, c2, rfl, t2, b2⟩; have b2 := Below.undrew b2; have x2 := bb b1 b2)
            | (go_at_call 72; (with_reducible refine (HCM.out _ x2 _ _ _ t2).mono ?_); rintro _ _ ⟨rfl, rfl⟩)))
      | (go_region_held3 (fun w' => w'.cell? ⟨w.heap.size, 0, none⟩ = some (.bool true) ∧ w'.cell? ⟨w.heap.size, 1, none⟩ = some (.slice A n c) ∧ w'.cell? ⟨w.heap.size, 2, none⟩ = some (.slice A' n' c')) (first | exact HS.out _ b1.drew | exact HS.out _ x2 | fail)
          (first
            | (go_at_call 73; (with_reducible refine (HO1.out _).mono ?_); rintro _ w2 ⟨A2, n2, c2, rfl, t2, b2⟩; have b2 := Below.undrew b2; have x2 := bb b1 b2)
            | (go_at_call 72; (with_reducible refine (HCM.out _ x2 _ _ _ t2).mono ?_); rintro _ _ ⟨rfl, rfl⟩)))
      go_wp2_with fail
      go_ret
      refine ⟨_, rfl, ?_, bb hb0 x2⟩
      rw [HT.out, HTA.out]
      first | (rw [HE1.out]; rfl) | (rw [by_minus, HE1.out]; rfl)
  · rw [decide_eq_false h1] at ez
    have ez2 : (cmpN X.den 1 != 0) = true := by simp only [bne, ez]; rfl
    have HT := Lib.hid (txtQ_more h1)
    generalize cmpN X.den 1 = cm at *
    clear h1
    cases s
    all_goals
      go_enter Tryz.func47, Tryz.ntmps47
      go_wp2_with fail
      rw [HW.out]
      clear HW
      refine (HS1.out _ (Below.refl _ _)).mono ?_
      rintro _ w1 ⟨t1, rfl, e1, b1⟩
      have q1 := txt_size e1 HZ1.out
      have HE1 := Lib.hid e1
      clear e1
      obtain ⟨k0, k1, k2⟩ := HS.out _ b1
      go_wp2_with fail
      first
      | (go_region_held3 (fun w' => w'.cell? ⟨w.heap.size, 0, none⟩ = some (.bool false) ∧ w'.cell? ⟨w.heap.size, 1, none⟩ = some (.slice A n c) ∧ w'.cell? ⟨w.heap.size, 2, none⟩ = some (.slice A' n' c')) (first | exact HS.out _ b1.drew | exact HS.out _ x2 | fail)
          (first
            | (go_at_call 73; (with_reducible refine (HO1.out _).mono ?_); rintro _ w2 ⟨A2, n2, c2, rfl, t2, b2⟩; have b2 := Below.undrew b2; have x2 := bb b1 b2)
            | (go_at_call 72; (with_reducible refine (HCM.out _ x2 _ _ _ t2).mono ?_); rintro _ _ ⟨rfl, rfl⟩)))
      | (go_region_held3 (fun w' => w'.cell? ⟨w.heap.size, 0, none⟩ = some (.bool true) ∧ w'.cell? ⟨w.heap.size, 1, none⟩ = some (.slice A n c) ∧ w'.cell? ⟨w.heap.size, 2, none⟩ = some (.slice A' n' c')) (first | exact HS.out _ b1.drew | exact HS.out _ x2 | fail)
          (first
            | (go_at_call 73; (with_reducible refine (HO1.out _).mono ?_); rintro _ w2 ⟨A2, n2, c2, rfl, t2, b2⟩; have b2 := Below.undrew b2; have x2 := bb b1 b2)
            | (go_at_call 72; (with_reducible refine (HCM.out _ x2 _ _ _ t2).mono ?_); rintro _ _ ⟨rfl, rfl⟩)))
      obtain ⟨j0, j1, j2⟩ := HS.out _ x2
      go_wp2_with fail
      refine (HS2.out _ x2).mono ?_
      rintro _ w3 ⟨t3, rfl, e3, b3⟩
      have q3 := txt_size e3 HZ2.out
      have HE3 := Lib.hid e3
      clear e3
      go_wp2_with fail
      go_ret
      refine ⟨_, rfl, ?_, bb hb0 (bb x2 b3)⟩
      rw [HT.out, HTA.out, by_append, by_slash, HE3.out]
      first | (rw [HE1.out]; rfl) | (rw [by_minus, HE1.out]; rfl)

set_option maxRecDepth 100000 in
set_option maxHeartbeats 4000000 in
theorem ref_pshow {w : World} {s : Bool} {A A' : Option Addr} {n n' c c' : Nat} {X : Rat} (h : Q w s A n c A' n' c' X) (hX : Sz X 20) :
    Calls Tryz.prog 50 #[.agg #[.bool s, .slice A n c, .slice A' n' c']] w (RetS (txtQ X) w) := by
  obtain ⟨V, hW, Ba, hb0⟩ := box0 25 w #[.bool s, .slice A n c, .slice A' n' c']
  have l1 : n ≤ 20 := h.2.1.small hX.1
  have l2 : n' ≤ 20 := h.2.2.small hX.2
  have S1 := fun w1 (hb : Below V.heap.size V w1) => ref_show (N := 20) (h.2.1.below (bb hb0 hb)) l1 (by omega)
  have S2 := fun w1 (hb : Below V.heap.size V w1) => ref_show (N := 20) (h.2.2.below (bb hb0 hb)) l2 (by omega)
  simp only [val_words] at S1 S2
  have CM := fun (w1 : World) (hb : Below V.heap.size V w1) (C : Option Addr) (a b : Nat) (y : Sl w1 C a b [1]) => ref_cmp (h.2.2.below (bb hb0 hb)) y (by omega) (by have := y.len; simp at this; omega)
  have v1 : val [(1 : Int)] = 1 := rfl
  simp only [val_words, v1] at CM
  have ez := cmpN_zero X.den 1
  have hS : ∀ w', Below V.heap.size V w' → w'.cell? ⟨w.heap.size, 0, none⟩ = some (.bool s) ∧ w'.cell? ⟨w.heap.size, 1, none⟩ = some (.slice A n c) ∧ w'.cell? ⟨w.heap.size, 2, none⟩ = some (.slice A' n' c') := fun w' hb => (Ba.below' hb).three.1
  have hL : ∀ w', Below V.heap.size V w' → w.heap.size < w'.heap.size := fun w' hb => (Ba.below' hb).lt
  have hta : txtA X = (if s then [45] else []) ++ txt X.num.natAbs := by unfold txtA; rw [← h.1]
  have z1 := hX.1
  have z2 := hX.2
  have HS1 := Lib.hid S1
  have HS2 := Lib.hid S2
  have HCM := Lib.hid CM
  have HS := Lib.hid hS
  have HL := Lib.hid hL
  have HW := Lib.hid hW
  have HTA := Lib.hid hta
  have HZ1 := Lib.hid z1
  have HZ2 := Lib.hid z2
  clear S1 S2 CM hS hL Ba hW h hX hta z1 z2 v1
  by_cases h1 : X.den = 1
  · rw [decide_eq_true h1] at ez
    have ez2 : cmpN X.den 1 = 0 := by simpa using ez
    have HT := Lib.hid (txtQ_one h1)
    rw [ez2] at HCM
    clear ez ez2 h1
    cases s
    all_goals
      go_enter Tryz.func50, Tryz.ntmps50
      go_wp2_with fail
      rw [HW.out]
      clear HW
      refine (HS1.out _ (Below.refl _ _)).mono ?_
      rintro _ w1 ⟨t1, rfl, e1, b1⟩
      have q1 := txt_size e1 HZ1.out
      have HE1 := Lib.hid e1
      clear e1
      obtain ⟨k0, k1, k2⟩ := HS.out _ b1
      go_wp2_with fail
      refine (HCM.out _ (b1.alloc b1.size _) _ _ _ (sl_lit w1 1 U_1)).mono ?_
      rintro _ _ ⟨rfl, rfl⟩
      go_wp2_with fail
      go_ret
      refine ⟨_, rfl, ?_, bb hb0 (b1.alloc b1.size _)⟩
      rw [HT.out, HTA.out]
      first | (rw [HE1.out]; rfl) | (rw [by_minus, HE1.out]; rfl)
  · rw [decide_eq_false h1] at ez
    have ez2 : (cmpN X.den 1 != 0) = true := by simp only [bne, ez]; rfl
    have HT := Lib.hid (txtQ_more h1)
    generalize cmpN X.den 1 = cm at *
    clear h1
    cases s
    all_goals
      go_enter Tryz.func50, Tryz.ntmps50
      go_wp2_with fail
      rw [HW.out]
      clear HW
      refine (HS1.out _ (Below.refl _ _)).mono ?_
      rintro _ w1 ⟨t1, rfl, e1, b1⟩
      have q1 := txt_size e1 HZ1.out
      have HE1 := Lib.hid e1
      clear e1
      obtain ⟨k0, k1, k2⟩ := HS.out _ b1
      go_wp2_with fail
      refine (HCM.out _ (b1.alloc b1.size _) _ _ _ (sl_lit w1 1 U_1)).mono ?_
      rintro _ _ ⟨rfl, rfl⟩
      have hz := HL.out _ b1
      go_wp2_with fail
      refine (HS2.out _ (b1.alloc b1.size _)).mono ?_
      rintro _ w3 ⟨t3, rfl, e3, b3⟩
      have q3 := txt_size e3 HZ2.out
      have HE3 := Lib.hid e3
      clear e3
      go_wp2_with fail
      go_ret
      refine ⟨_, rfl, ?_, bb hb0 (bb (b1.alloc b1.size _) b3)⟩
      rw [HT.out, HTA.out, by_append, by_slash', HE3.out]
      first | (rw [HE1.out]; simp) | (rw [by_minus, HE1.out]; simp)

end Go.Proofs.YtibgpeaplmcogaaGreatDoor

namespace Go.Proofs.YtibgpeaplmcogaaGreatDoor
set_option maxRecDepth 100000
open Go.RowKit
set_option linter.unusedVariables false
set_option linter.unusedSimpArgs false

theorem dec_txt (u : Nat) : Lib.decDigits u = txt u := by
  induction u using Nat.strongRecOn with
  | ind u ih =>
    rw [Lib.decDigits]
    by_cases h : u < 10
    · rw [dif_pos h]
      by_cases h0 : u = 0
      · subst h0; rfl
      · unfold txt
        rw [if_neg h0, txt0_step h0, Nat.div_eq_of_lt h, Nat.mod_eq_of_lt h]
        rfl
    · rw [dif_neg h, ih (u / 10) (by omega)]
      unfold txt
      rw [if_neg (by omega : ¬ u / 10 = 0), if_neg (by omega : ¬ u = 0), txt0_step (by omega : u ≠ 0)]
      rfl
theorem itoa_neg {n : Int} (h : n < 0) : Lib.itoa n = 45 :: txt n.natAbs := by unfold Lib.itoa; rw [if_pos h, dec_txt]
theorem itoa_pos {n : Int} (h : ¬ n < 0) : Lib.itoa n = txt n.toNat := by unfold Lib.itoa; rw [if_neg h, dec_txt]

theorem one_u64 {x : Int} (hx : U x) (w : World) : Sl (w.alloc (.cells #[.int .u64 x] 76)) (some ⟨w.heap.size, 0, none⟩) 1 1 [x] := (Own.lit (w := w) (t := 76) (Nat.le_refl _) x).sl (by intro z hz; rw [List.mem_singleton.1 hz]; exact hx)
theorem small64 {u : Nat} (h : u < 18446744073709551616) : u < W ^ 20 := Nat.lt_of_lt_of_le (by unfold W; omega : u < W) (Nat.le_self_pow (by omega) W)
set_option maxHeartbeats 1000000 in
theorem ref_int {n : Int} (h : I64 n) (w : World) : Calls Tryz.prog 51 #[.int .i64 n] w (RetS (Lib.itoa n) w) := by
  obtain ⟨h1, h2⟩ := h
  have S := fun (x : Int) (hx : U x) (w1 : World) => ref_show (one_u64 hx w1) (Nat.le_refl _) (by omega)
  by_cases hz : n < 0
  · have e : IntKind.u64.wrap (-(IntKind.u64.wrap n)) = (n.natAbs : Int) := by rw [wrapU, wrapU]; omega
    have S1 := S (n.natAbs : Int) (by unfold U; omega)
    have ev : val [(n.natAbs : Int)] = n.natAbs := by show (n.natAbs : Int).toNat + W * 0 = n.natAbs; omega
    rw [ev] at S1
    have hsz : ∀ s : ByteArray, by_ s = txt n.natAbs → s.size ≤ 400 := fun s hs => txt_size hs (small64 (by omega))
    rw [itoa_neg hz]
    generalize txt n.natAbs = l at *
    generalize ((n.natAbs : Nat) : Int) = m at *
    have HS := Lib.hid S1
    have HZ := Lib.hid hsz
    clear S S1 ev hsz
    go_enter Tryz.func51, Tryz.ntmps51
    go_wp2_with fail
    with_reducible refine (HS.out _).mono ?_
    rintro _ w1 ⟨s, rfl, hs, b1⟩
    have hs4 := HZ.out s hs
    go_wp2_with fail
    go_ret
    exact ⟨_, rfl, by rw [by_append, hs]; rfl, bb (below_alloc _ _) b1⟩
  · have e : IntKind.u64.wrap n = (n.toNat : Int) := by rw [wrapU]; omega
    have S1 := S (n.toNat : Int) (by unfold U; omega)
    have ev : val [(n.toNat : Int)] = n.toNat := by show (n.toNat : Int).toNat + W * 0 = n.toNat; omega
    rw [ev] at S1
    rw [itoa_pos hz]
    generalize txt n.toNat = l at *
    generalize ((n.toNat : Nat) : Int) = m at *
    have HS := Lib.hid S1
    clear S S1 ev
    go_enter Tryz.func51, Tryz.ntmps51
    go_wp2_with fail
    with_reducible refine (HS.out _).mono ?_
    rintro _ w1 ⟨s, rfl, hs, b1⟩
    go_wp2_with fail
    go_ret
    exact ⟨_, rfl, hs, bb (below_alloc _ _) b1⟩

end Go.Proofs.YtibgpeaplmcogaaGreatDoor
