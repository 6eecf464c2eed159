/-
  What All of the document returns: all places, one by one. Conditions: the slice reads as a list of ints.
-/
import Derived.Test.YthhmofmncjodfaaWaE
namespace Go.Proofs.Ythhmofmncjodfaa
open Go.RowKit
set_option linter.unusedVariables false
set_option linter.unusedSimpArgs false

/-- the places of the first k axes -/
def allZ (d : List Int) (k : Nat) : List (List Int) := (allN ((nat_ d).take k)).map castL
def ext1 (m : Nat) (o : List Int) : List (List Int) := (List.range m).map fun y : Nat => o ++ [(y : Int)]
theorem allZ_zero (d : List Int) : allZ d 0 = [[]] := rfl
theorem castL_snoc (o : List Nat) (y : Nat) : castL (o ++ [y]) = castL o ++ [(y : Int)] := by simp [castL]
theorem allZ_next {d : List Int} {k m : Nat} (hk : k < d.length) (hm : d.getD k 0 = (m : Int)) : allZ d (k + 1) = (allZ d k).flatMap (ext1 m) := by
  have h1 : (nat_ d).take (k + 1) = (nat_ d).take k ++ [m] := by
    rw [List.take_succ_eq_append_getElem (by rw [length_nat]; exact hk)]
    congr 2
    have h9 : (nat_ d).getD k 0 = (d.getD k 0).toNat := nat_at hk
    rw [hm, Int.toNat_natCast, List.getD_eq_getElem?_getD, List.getElem?_eq_getElem (by rw [length_nat]; exact hk)] at h9
    exact h9
  unfold allZ ext1
  rw [h1, allN_snoc, List.map_flatMap, List.flatMap_map]
  congr 1
  funext o
  rw [List.map_map]
  apply List.map_congr_left
  intro y _
  exact castL_snoc o y
theorem allZ_len (d : List Int) (k : Nat) : (allZ d k).length = prodN ((nat_ d).take k) := by unfold allZ; rw [List.length_map, length_allN]
theorem allZ_le {d : List Int} (hv : Vd d) (k : Nat) : (allZ d k).length ≤ 64 := by
  rw [allZ_len, ← nat_take]
  have h1 := prod_nat (hv.pos.take k)
  have h2 := prodZ_take_le hv.pos k
  have h3 := hv.prod
  omega
theorem allZ_all {d : List Int} (h0 : chk d = 0) : allZ d d.length = plcs d := by
  have hp := prod_nat (vd_of h0).pos
  have hn : nE d = prodN (nat_ d) := by unfold nE; rw [cntZ_ok h0]; omega
  unfold allZ plcs allN
  rw [List.take_of_length_le (by rw [length_nat]; exact Nat.le_refl _), hn, List.map_map]
  rfl
theorem plcs_no {d : List Int} (h0 : ¬ chk d = 0) : plcs d = [] := by unfold plcs nE; rw [cntZ_no h0]; rfl
theorem ext1_len (m : Nat) (o : List Int) : (ext1 m o).length = m := by simp [ext1]
theorem ext_take {m t : Nat} (o : List Int) (ht : t < m) : (ext1 m o).take (t + 1) = (ext1 m o).take t ++ [o ++ [(t : Int)]] := by
  rw [List.take_succ_eq_append_getElem (by rw [ext1_len]; exact ht)]
  simp [ext1]
theorem flat_take {os : List (List Int)} {m j : Nat} {o : List Int} (h : os[j]? = some o) : (os.take (j + 1)).flatMap (ext1 m) = (os.take j).flatMap (ext1 m) ++ ext1 m o := by
  have hj := (List.getElem?_eq_some_iff.1 h).1
  rw [List.take_succ_eq_append_getElem hj, List.flatMap_append]
  have : os[j] = o := (List.getElem?_eq_some_iff.1 h).2
  rw [this]
  simp
theorem allZ_olen {d : List Int} {k : Nat} {o : List Int} (h : o ∈ allZ d k) : o.length ≤ d.length := by
  unfold allZ allN at h
  simp only [List.mem_map, List.mem_range] at h
  obtain ⟨p, ⟨m, _, rfl⟩, rfl⟩ := h
  rw [length_castL, length_placeN, List.length_take, length_nat]
  omega
/-- slices with an address -/
def Adr (x : ZS) : Prop := ∃ b off, x.A = some ⟨b, off, none⟩
theorem newsZ {w : World} {b off n c : Nat} {z : List Int} (h : SlZ w (some ⟨b, off, none⟩) n c z) : ∀ (j : Nat) (u : Value), (z.map (Value.int .i64))[j]? = some u → w.cell? ((⟨b, off, none⟩ : Addr).add j) = some u := by
  intro j u hj
  have hl := h.len
  have hjl : j < z.length := by
    have := (List.getElem?_eq_some_iff.1 hj).1
    simpa using this
  obtain ⟨b', off', x, hx, e, _, _, hc⟩ := h.get (j := j) (by omega)
  injection e with e
  injection e with e1 e2
  subst e1 e2
  have e1 : (⟨b, off, none⟩ : Addr).add j = ⟨b, off + j, none⟩ := by
    unfold Addr.add; split
    · rename_i h9; rw [h9, Nat.add_zero]
    · rfl
  rw [e1, hc, ← hx, getD_eq hjl]
  rw [List.getElem?_map, List.getElem?_eq_getElem hjl] at hj
  exact hj
theorem ownsRow_zs {w : World} {B n : Nat} {v : Value} {z : List Int} (h : w.ownsRow B 3 1 v n (z.map (Value.int .i64))) (hn : 0 < n) (hi : ∀ x ∈ z, I64 x) : ∃ x : ZS, v = .slice x.A x.n x.c ∧ x.ok w ∧ x.z = z ∧ Adr x := by
  have hl : z.length = n := by have := h.1; simpa using this
  rcases h.2 with ⟨_, h2⟩ | ⟨g, cap, cur, e, hB, hh, h3, h4, h5, h6⟩
  · omega
  · refine ⟨⟨some ⟨g, 0, none⟩, n, cap, z⟩, e, ⟨?_, fun _ => ⟨g, 0, cur, _, rfl, hh⟩⟩, rfl, g, 0, rfl⟩
    refine ⟨⟨hl, h3, h4, fun x hx => ⟨hi x hx, rfl⟩⟩, fun h0 => ⟨g, 0, rfl, (Array.getElem?_eq_some_iff.1 hh).1, fun j hj i hi => ?_⟩⟩
    obtain rfl : i = 0 := by omega
    rw [Nat.zero_add, Nat.mul_one, Nat.add_zero, cell_of_row w g j cur _ (0, 0) hh]
    have h7 : (cur.toList.take (n * 1))[j]? = (z.map (Value.int .i64))[j]? := by rw [h6]
    have hj2 : j < z.length := by show j < z.length; rw [hl]; exact hj
    rw [List.getElem?_take, if_pos (show j < n * 1 by have : j < n := hj; omega), List.getElem?_map] at h7
    rw [← Array.getElem?_toList, h7]
    simp only
    rw [List.getElem?_eq_getElem hj2]
    rfl

set_option maxRecDepth 100000 in
set_option maxHeartbeats 8000000 in
theorem ref_all20 {w : World} {A : Option Addr} {n c : Nat} {d : List Int} (h : SlZ w A n c d) : Calls Try.prog 31 #[.slice A n c] w (RetL (plcs d) w) := by
  have CK := ref_check19 h
  have hn := h.small
  have HL := Lib.hid h.len
  by_cases h0 : chk d = 0
  · rw [h0] at CK
    have HV := Lib.hid (vd_of h0)
    have HPL := Lib.hid (allZ_all h0)
    have HC := Lib.hid CK
    have hn6 : n ≤ 6 := by have := (vd_of h0).len; have := h.len; omega
    obtain ⟨i1, hi1, hy0, hy1, hy2⟩ := info_parts infoZ
    clear CK h0
    go_enter Try.func31, Try.ntmps31
    go_wp2_with fail
    refine HC.out.mono ?_
    rintro _ _ ⟨rfl, rfl⟩
    go_wp2_with fail
    obtain ⟨V, hV⟩ : ∃ V, (w.alloc (.cells #[] 3)).alloc (.cells #[.slice (some ⟨w.heap.size, 0, none⟩) 0 0] 22) = V := ⟨_, rfl⟩
    have bV : Below w.heap.size w V := by rw [← hV]; exact (below_alloc _ _).alloc (by simp) _
    have hok0 : (⟨some ⟨w.heap.size, 0, none⟩, 0, 0, []⟩ : ZS).ok V := ⟨SlZ.nil V (some ⟨w.heap.size, 0, none⟩) 0 (by unfold maxLen; omega), Typ.nil _ _⟩
    have hs0 : SlL V (some ⟨w.heap.size + 1, 0, none⟩) 1 1 [⟨some ⟨w.heap.size, 0, none⟩, 0, 0, []⟩] := by
      refine ⟨⟨rfl, Nat.le_refl _, by unfold maxLen; omega, fun x hx => ?_⟩, fun _ => ⟨_, _, rfl, by rw [← hV]; simp, fun j hj i hi => ?_⟩⟩
      · rw [List.mem_singleton.1 hx]; exact ⟨hok0, rfl⟩
      · obtain rfl : i = 0 := by omega
        obtain rfl : j = 0 := by omega
        rw [← hV]
        have := Box.new (w.alloc (.cells #[] 3)) 22 #[.slice (some ⟨w.heap.size, 0, none⟩) 0 0]
        rw [World.size_alloc] at this
        exact this.cell 0
    have HS0 := Lib.hid hs0
    rw [hV]
    clear hV hs0 hok0
    go_loopw [3, 15] (fun ov iv wr => ∃ (k : Nat) (A1 : Option Addr) (n1 c1 : Nat) (xs : List ZS), k ≤ n ∧ iv = .int .i64 k ∧ ov = .slice A1 n1 c1 ∧ Hid (SlL wr A1 n1 c1 xs) ∧ Hid (xs.map ZS.z = allZ d k) ∧ Hid (∀ x ∈ xs, Adr x) ∧ Hid (0 < n1 → New w A1) ∧ Below w.heap.size w wr) (fun _ iv _ => n - mes iv)
    case atStart => exact ⟨0, _, 1, 1, _, by omega, rfl, rfl, HS0, Lib.hid rfl, Lib.hid (fun x hx => by rw [List.mem_singleton.1 hx]; exact ⟨_, _, rfl⟩), Lib.hid (fun _ => New.some_ (by omega)), bV⟩
    case round =>
      clear HS0 bV
      obtain ⟨k, A1, n1, c1, xs, hk, rfl, rfl, HX, HZ, HAD, HNW, hb⟩ := hrel
      have hxl : n1 ≤ 64 := by
        have h9 := congrArg List.length HZ.out
        rw [List.length_map, HX.out.len] at h9
        rw [h9]
        exact allZ_le HV.out k
      by_cases hk2 : k < n
      · obtain ⟨gd, od, dk, hdk, rfl, hltd, hid, hcd⟩ := (h.below hb).get hk2
        have hdk1 := HV.out.at (k := k) (by rw [HL.out]; exact hk2)
        rw [hdk] at hdk1
        obtain ⟨m, rfl⟩ : ∃ m : Nat, dk = (m : Int) := ⟨dk.toNat, by omega⟩
        have hm64 : m ≤ 64 := by omega
        have HNX := Lib.hid (allZ_next (d := d) (k := k) (m := m) (by rw [HL.out]; exact hk2) hdk)
        have hh := Lib.hid (h.below hb)
        have HDK := Lib.hid hdk
        clear hdk hdk1 hid hcd hltd
        obtain ⟨wo, hwo⟩ : ∃ wo, wo = wr := ⟨wr, rfl⟩
        subst hwo
        go_wp2_with fail
        go_loopw [5, 20] (fun mv iv wm => ∃ (j : Nat) (ys : List ZS), j ≤ n1 ∧ iv = .int .i64 j ∧ Hid (OwnL wo.heap.size wm mv ys) ∧ Hid (ys.map ZS.z = ((allZ d k).take j).flatMap (ext1 m)) ∧ Hid (∀ x ∈ ys, Adr x) ∧ ys.length = j * m ∧ Below wo.heap.size wo wm) (fun _ iv _ => n1 - mes iv)
        case atStart => exact ⟨0, [], by omega, rfl, Lib.hid (OwnL.nil _ _), Lib.hid (by simp), Lib.hid (by simp), by simp, Below.refl _ _⟩
        case round =>
          obtain ⟨j, ys, hj, rfl, HO, HYZ, HYA, hyl, hbm⟩ := hrel
          obtain ⟨wm, hwm0⟩ : ∃ wm, wm = wr := ⟨wr, rfl⟩
          subst hwm0
          have hjm : j * m ≤ 4096 := by
            have : j * m ≤ 64 * 64 := Nat.mul_le_mul (by omega) hm64
            omega
          have hwm := hbm.size
          by_cases hj2 : j < n1
          · obtain ⟨g1, o1, x, hx, rfl, _, hxok, hxc⟩ := (HX.out.below hbm).get hj2
            obtain ⟨gd', od', dk, hdk, e9, hltd, hid, hcd⟩ := (hh.out.below hbm).get hk2
            injection e9 with e9
            injection e9 with e8 e7
            subst e8 e7
            have hdm : dk = (m : Int) := by
              obtain ⟨gd2, od2, dk2, hdk2, _, _, _, hcd2⟩ := hh.out.get hk2
              have h9 := HDK.out
              rw [← hdk, h9]
            subst hdm
            have hxm := List.mem_of_getElem? hx
            obtain ⟨bx, ofx, hxA⟩ := HAD.out x hxm
            have hzj : (allZ d k)[j]? = some x.z := by rw [← HZ.out, List.getElem?_map, hx]; rfl
            have hxn : x.n ≤ 6 := by
              have h9 := allZ_olen (List.mem_of_getElem? hzj)
              have h8 := hxok.1.len
              have h7 := HV.out.len
              omega
            have HFT := Lib.hid (flat_take (m := m) hzj)
            have HXJ := Lib.hid hx
            have hyl2 : ys.length = j * m + 0 := by omega
            obtain ⟨jm, hjmE⟩ : ∃ jm, j * m = jm := ⟨_, rfl⟩
            rw [hjmE] at hyl2 hjm
            have HJM := Lib.hid hjmE
            clear hx hdk hid hltd hxok hxm hzj hyl hjmE hxc
            go_wp2_with fail
            go_loopw [5, 27] (fun mv iv wi => ∃ (t : Nat) (ys : List ZS), t ≤ m ∧ iv = .int .i64 t ∧ Hid (OwnL wo.heap.size wi mv ys) ∧ Hid (ys.map ZS.z = ((allZ d k).take j).flatMap (ext1 m) ++ (ext1 m x.z).take t) ∧ Hid (∀ x ∈ ys, Adr x) ∧ ys.length = jm + t ∧ Below wo.heap.size wo wi) (fun _ iv _ => m - mes iv)
            case atStart => exact ⟨0, ys, by omega, rfl, HO, Lib.hid (by rw [HYZ.out]; simp), HYA, hyl2, hbm⟩
            case round =>
              clear HO HYZ HYA hyl2 hbm hcd hwm
              obtain ⟨t, ys, ht, rfl, HO, HYZ, HYA, hyl, hbi⟩ := hrel
              obtain ⟨wi, hwi0⟩ : ∃ wi, wi = wr := ⟨wr, rfl⟩
              subst hwi0
              have hwi := hbi.size
              by_cases ht2 : t < m
              · obtain ⟨g1', o1', x', hx', e9, _, hxok, hxc⟩ := (HX.out.below hbi).get hj2
                rw [HXJ.out] at hx'
                injection hx' with hx'
                subst hx'
                injection e9 with e9
                injection e9 with e8 e7
                subst e8 e7
                obtain ⟨xA, xn, xc, xz⟩ := x
                simp only at hxA hxn hxc HYZ hxok HFT
                subst hxA
                have hnz := newsZ hxok.1
                have ba := below_alloc wi (.cells #[] 3)
                have hnz2 : ∀ (j : Nat) (u : Value), (xz.map (Value.int .i64))[j]? = some u → (wi.alloc (.cells #[] 3)).cell? ((⟨bx, ofx, none⟩ : Addr).add j) = some u := newsZ (hxok.1.below ba)
                have hemp : (wi.alloc (.cells #[] 3)).ownsRow wi.heap.size 3 1 (.slice (some ⟨wi.heap.size, 0, none⟩) 0 0) 0 [] :=
                  ⟨rfl, .inr ⟨wi.heap.size, 0, #[], rfl, Nat.le_refl _, heap_alloc_new wi _, Nat.le_refl _, by unfold maxLen; omega, rfl, rfl⟩⟩
                have hxl : xz.length = xn := hxok.1.len
                have hxi : ∀ y ∈ xz, I64 y := hxok.1.i64
                have HXL := Lib.hid hxl
                have HXI := Lib.hid hxi
                obtain ⟨us, hus⟩ : ∃ us, xz.map (Value.int .i64) = us := ⟨_, rfl⟩
                rw [hus] at hnz2
                have HUS := Lib.hid hus
                have HUL := Lib.hid (show us.length = xn * 1 by rw [← hus, List.length_map]; omega)
                have HUO := Lib.hid (show ∀ u ∈ us, u.oneCell' = true from fun u hu => by rw [← hus] at hu; obtain ⟨z, _, rfl⟩ := List.mem_map.1 hu; rfl)
                have HNZ := Lib.hid hnz2
                have HEM := Lib.hid hemp
                have HXT := Lib.hid (ext_take xz ht2)
                have HXO := Lib.hid hxok
                have HB5 := Lib.hid (show wi.heap.size ≤ (wi.alloc (.cells #[] 3)).heap.size by simp)
                clear hnz hnz2 hemp hxl hxi hxok hus
                go_wp2_with (at_builtin; refine wpList_append_own _ rfl _ _ 22 rfl wi.heap.size 3 i1 (.int .i64 0) 1 8 Try.underlying22 hi1 hy0 hy1 hy2 rfl (by decide) _ _ _ rfl HEM.out ⟨bx, ofx, none⟩ xn xc us rfl HUL.out HNZ.out HUO.out (by unfold maxLen; omega) (by omega) HB5.out ?_)
                intro v1 w1 ho1 hg1 _
                have b1 : Below wi.heap.size wi w1 := ba.grown hg1 (by simp) (fun k e => by
                  have e2 : wi.heap.size = k := by simpa [Value.ownBlock] using e
                  omega)
                have HO1 := Lib.hid ho1
                clear ho1 hg1 HEM HNZ ba
                go_wp2_with (at_builtin; refine wpList_append_own _ rfl _ _ 22 rfl wi.heap.size 3 i1 (.int .i64 0) 1 8 Try.underlying22 hi1 hy0 hy1 hy2 rfl (by decide) _ _ _ rfl (HO1.out.alloc _) ⟨w1.heap.size, 0, none⟩ 1 1 [Value.int .i64 (t : Int)] rfl rfl ?d1 ?d2 ?d3 ?d4 ?d5 ?_)
                case d1 => exact news_new w1 #[Value.int .i64 (t : Int)] 3
                case d2 => exact zc_one (t : Int)
                case d3 => unfold maxLen; omega
                case d4 => omega
                case d5 => have := b1.size; simp; omega
                intro v2 w2 ho2 hg2 _
                have b2 : Below wi.heap.size wi w2 := (b1.alloc b1.size _).grown hg2 (by have := b1.size; simp; omega) (fun k e => by
                  rcases HO1.out.2 with ⟨h9, _⟩ | ⟨g9, cap9, cur9, h9, hB9, _⟩
                  · rw [h9] at e; simp [Value.ownBlock] at e
                  · rw [h9] at e
                    have e2 : g9 = k := by simpa [Value.ownBlock] using e
                    omega)
                obtain ⟨y, rfl, hyok, hyz, hya⟩ := ownsRow_zs (n := xn + 1) (z := xz ++ [(t : Int)]) (by rw [List.map_append, HUS.out]; simpa using ho2) (by omega) (fun z hz => by
                  rcases List.mem_append.1 hz with hz | hz
                  · exact HXI.out z hz
                  · rw [List.mem_singleton.1 hz]; unfold I64; omega)
                obtain ⟨yA, yn, yc, yz⟩ := y
                simp only at hyz
                have HYK := Lib.hid hyok
                have HYE := Lib.hid hyz
                clear ho2 hg2 hyok hyz HO1
                go_wp2_with (at_builtin; refine wpList_append_l rfl _ _ rfl wo.heap.size _ ys rfl (HO.out.below b2) 1 ⟨yA, yn, yc, yz⟩ HYK.out rfl (by omega) (by have := b2.size; omega) ?_)
                intro v3 w3 ho3 hb3
                have b4 := hbi.trans ((b2.mono hwi).trans hb3)
                have HO3 := Lib.hid ho3
                clear ho3 hb3 HO HYK
                go_wp2_with fail
                go_roundw
                case rel =>
                  refine ⟨t + 1, _, by omega, by go_num, HO3, Lib.hid ?_, Lib.hid (fun z hz => ?_), by rw [List.length_append, hyl]; rfl, b4⟩
                  · rw [List.map_append, HYZ.out, HXT.out, List.append_assoc]
                    simp only [List.map_cons, List.map_nil]
                    rw [HYE.out]
                  · rcases List.mem_append.1 hz with hz | hz
                    · exact HYA.out z hz
                    · rw [List.mem_singleton.1 hz]; exact hya
                case measure => simp [mes, intOf]; omega
              · obtain rfl : t = m := by omega
                have hyz := HYZ.out
                have e9 : ∀ o, (ext1 t o).take t = ext1 t o := fun o => List.take_of_length_le (by rw [ext1_len]; exact Nat.le_refl _)
                rw [e9, ← HFT.out] at hyz
                have HYF := Lib.hid hyz
                have hyl3 : ys.length = (j + 1) * t := by rw [Nat.add_mul, HJM.out]; omega
                clear HYZ hyz hyl
                go_wp2_with fail
                go_roundw
                case rel => exact ⟨j + 1, ys, by omega, by go_num, HO, HYF, HYA, hyl3, hbi⟩
                case measure => simp [mes, intOf]; omega
          · obtain rfl : j = n1 := by omega
            have hyz := HYZ.out
            rw [List.take_of_length_le (by rw [← HZ.out, List.length_map, HX.out.len]; exact Nat.le_refl _), ← HNX.out] at hyz
            obtain ⟨A2, n2, c2, rfl, hs2, hn2⟩ := HO.out.retl
            have HS2 := Lib.hid hs2
            have HYF := Lib.hid hyz
            clear hyz HYZ hs2 HO hyl
            go_wp2_with fail
            go_roundw
            case rel => exact ⟨k + 1, A2, n2, c2, ys, by omega, by go_num, rfl, HS2, HYF, HYA, Lib.hid (fun h9 b off e => Nat.le_trans hb.size (hn2 h9 b off e)), bb hb hbm⟩
            case measure => simp [mes, intOf]; omega
      · obtain rfl : k = n := by omega
        have hz := HZ.out
        rw [← HL.out, HPL.out] at hz
        have HZ2 := Lib.hid hz
        clear HZ hz
        go_wp2_with fail
        go_ret
        exact ⟨_, _, _, xs, rfl, HX.out, HZ2.out, HNW.out, hb⟩
  · rw [plcs_no h0]
    have hz : (chk d != 0) = true := by simpa using h0
    have HC := Lib.hid CK
    clear h0 CK
    go_enter Try.func31, Try.ntmps31
    go_wp2_with fail
    refine HC.out.mono ?_
    rintro _ _ ⟨rfl, rfl⟩
    go_wp2_with fail
    go_ret
    exact ⟨none, 0, 0, [], rfl, ⟨⟨rfl, Nat.le_refl _, by unfold maxLen; omega, by simp⟩, fun h9 => absurd h9 (by omega)⟩, rfl, fun h9 => absurd h9 (by omega), Below.refl _ _⟩

end Go.Proofs.Ythhmofmncjodfaa
