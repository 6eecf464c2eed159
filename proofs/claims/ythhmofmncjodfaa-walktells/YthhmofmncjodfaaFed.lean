/-
  A range over a function whose rounds are told something of the world by the iterator (what a slice that was handed out reads as). No Go function in sight. Conditions: as the law says: an outermost loop, a body that neither breaks nor returns, an assign code that leaves the world alone.
-/
import Derived.RangeFuncNested
import Derived.RangeFuncBound
import Derived.RangeFuncCalls
import Derived.RangeFuncLeaves
import Derived.OwnWalkIn
namespace Go.Proofs.Ythhmofmncjodfaa
open Go.RowKit
set_option linter.unusedVariables false
set_option linter.unusedSimpArgs false

/-- the iterator's word: it asks for a round at x only in a world of which Px x holds -/
def Fed {α : Type} (F : Fence) (n : Nat) (P : Program) (g : Nat) (lb : Array Value) (encs : α → Array Value) (Px : α → World → Prop) (Kp : World → World → Prop) (S : List α → Prop) (N : Nat) (w0 : World) : Prop :=
  ∀ (l : Nat) (J : List α → World → Prop) (W : World), Below w0.heap.size w0 W → AbidesFrom W.heap.size J →
    (∀ pre x W1, J pre W1 → Px x W1 → pre.length < N → YieldAt F (n - 1) P l (encs x) W1 fun e W' => e = .returned (.bool true) ∧ J (pre ++ [x]) W' ∧ Kp W1 W') →
    J [] W → CallsIn F n P g (#[.func (.yield l) #[] #[]] ++ lb) W fun e W' => (∃ v, e = .returned v) ∧ ∃ xs, S xs ∧ J xs W'
/-- a body that goes on -/
def fedPost (R : World → Prop) : Exit → Act → World → Prop
  | .normal, _, W => R W
  | _, _, _ => False

theorem fed_range {α : Type} {F : Fence} {n : Nat} {P : Program} {w : World} {g : Operand} {ps : Array Tmp} {assign body : Code} {Q : Exit → Act → World → Prop} {a : Act}
    (hF0 : F.round = none) (hn1 : 1 ≤ n) {gf : Nat} {lb : Array Value} (hev : a.eval g = .func (.func gf) #[] lb) (hFg : F.fn gf) (hent : ∀ args w, (callFunc gf args).run P w = .ok (.enter gf args) w)
    {encs : α → Array Value} (hps : ∀ x, (encs x).size = ps.size) {Px : α → World → Prop} {Kp : World → World → Prop} {S : List α → Prop} {N : Nat} {w0 : World} (hfed : Fed F (n - 1) P gf lb encs Px Kp S N w0) (hw0 : Below w0.heap.size w0 w)
    (kpT : ∀ {A B C : World}, Kp A B → Kp B C → Kp A C) (kpB : ∀ (W : World) (l : Nat) (o o' : Obj), w.heap.size ≤ l → W.heap[l]? = some o → o.isCells = false → Kp W (W.putObj l o'))
    (I : List α → World → Prop) (hI : OwnFrom w.heap.size I) (hPx : OwnFrom w.heap.size Px) (h0 : I [] w) (acts : α → Act)
    (hassign : ∀ (l : Nat) (x : α) (W : World) (K : Act → World → Prop), K (acts x) W → assign.wpIn (F.inRound l) (n - 1 - 1) P (Exit.then K (fun _ _ _ => False)) { tmps := (ps.zip (encs x)).foldl (fun t (p, v) => t.setIfInBounds p v) a.tmps, defers := [] } W)
    (hbody : ∀ (l : Nat) (pre : List α) (x : α) (W : World), w.heap.size ≤ l → (∃ r, W.heap[l]? = some (.loop r)) → I pre W → Px x W → pre.length < N →
      body.wpIn (F.inRound l) (n - 1 - 1) P (fedPost fun W' => KeepsFrom w.heap.size W W' ∧ Kp W W' ∧ I (pre ++ [x]) W') (acts x) W)
    (hdone : ∀ (D : Nat) (xs : List α) (W : World), w.heap.size ≤ D → S xs → I xs W → W.heap[D]? = some (.deferred (some [])) → Q .normal { a with defers := { target := .collected D, args := #[] } :: a.defers } W) :
    (Code.rangeFunc g ps assign body).wpIn F n P Q a w := by
  refine wpIn_rangeFunc fun fn hfn => ?_
  rw [hF0]
  -- the loop's record, and the block of the deferred calls
  let rd : Loop := { state := .ready, pending := none, fn, tmps := a.tmps, params := ps, assign, body, defers := w.heap.size }
  obtain ⟨V, hV⟩ : ∃ V, (w.alloc (.deferred (some []))).alloc (.loop rd) = V := ⟨_, rfl⟩
  have vL : V.heap[w.heap.size + 1]? = some (.loop rd) := by
    rw [← hV]
    have := World.alloc_heap_new (w.alloc (.deferred (some []))) (.loop rd)
    rwa [World.size_alloc] at this
  have vD : V.heap[w.heap.size]? = some (.deferred (some [])) := by
    rw [← hV]
    exact (Below.heap_alloc _ _ _ (by simp)).trans (World.alloc_heap_new w _)
  have vI : I [] V := by rw [← hV]; exact hI.alloc _ (hI.alloc _ h0)
  have vB : Below w.heap.size w V := by rw [← hV]; exact ((Below.refl _ w).alloc (Nat.le_refl _) _).alloc (by simp) _
  have vS : V.heap.size = w.heap.size + 1 + 1 := by rw [← hV]; simp
  refine ⟨w.heap.size + 1, [{ target := .collected w.heap.size, args := #[] }], V, { target := .fn (.func gf) lb, args := #[.func (.yield (w.heap.size + 1)) #[] #[]] }, V, gf, #[.func (.yield (w.heap.size + 1)) #[] #[]] ++ lb, V, ?_, ?_, ?_, ?_, fun _ => hn1, ?_⟩
  · rw [← hV]; exact run_enterLoop_outer _ _ _ _ _
  · simp only [resolve, hev]
    simp [go_sem]
  · intro f' hf'
    simp [Target.leads] at hf'
    subst hf'
    exact hFg
  · simp [invoke, go_sem, hent]
  · -- the book: the record is ready, the block of the deferred calls is empty
    let Bk : World → Prop := fun W => W.heap[w.heap.size + 1]? = some (.loop rd) ∧ W.heap[w.heap.size]? = some (.deferred (some []))
    have hstart : (fun (pre : List α) (W : World) => I pre W ∧ Bk W) [] V := ⟨vI, vL, vD⟩
    refine (hfed (w.heap.size + 1) (fun pre W => I pre W ∧ Bk W) V (hw0.trans (vB.mono hw0.size)) ?_ ?_ hstart).mono ?_
    · -- what walks about leaves both alone
      intro s A B row hs hg hr
      have hr2 : ∀ r, row = some r → w.heap.size ≤ r ∧ ∃ o : Obj, A.heap[r]? = some o ∧ o.isCells = false := fun r e => by
        obtain ⟨q1, o, q2, q3⟩ := hr r e
        exact ⟨by omega, o, q2, Obj.not_cells_of_walk q3⟩
      exact ⟨hI s A B row hs.1 hg hr2, (grownBy_keeps hg (fun r e => (hr r e).2) hs.2.1 rfl).trans hs.2.1, (grownBy_keeps hg (fun r e => (hr r e).2) hs.2.2 rfl).trans hs.2.2⟩
    · -- one round
      rintro pre x W ⟨wI, wL, wD⟩ wP hlen
      refine ⟨fn, _, assign, body, run_yield (P := P) (args := encs x) wL (hps x), roundIn_of_wpIn hfn (hassign _ x W _ ?_)⟩
      have wlt : w.heap.size + 1 < W.heap.size := (Array.getElem?_eq_some_iff.1 wL).1
      refine ⟨_, run_beginRound wL rfl, ?_⟩
      obtain ⟨W2, hW2⟩ : ∃ W2, W.putObj (w.heap.size + 1) (.loop { rd with state := .busy }) = W2 := ⟨_, rfl⟩
      have bL : W2.heap[w.heap.size + 1]? = some (.loop { rd with state := .busy }) := by rw [← hW2]; exact World.putObj_heap_same wlt
      have bD : W2.heap[w.heap.size]? = some (.deferred (some [])) := by rw [← hW2]; exact (World.putObj_heap_other (by omega)).trans wD
      have bI : I pre W2 := by rw [← hW2]; exact hI.putObj _ wI (by omega) wL rfl
      have bP : Px x W2 := by rw [← hW2]; exact hPx.putObj _ wP (by omega) wL rfl
      have bK : Kp W W2 := by rw [← hW2]; exact kpB _ _ _ _ (by omega) wL rfl
      rw [hW2]
      refine wpIn_mono (hbody _ pre x W2 (by omega) ⟨_, bL⟩ bI bP hlen) ?_
      intro e a3 W3 hp
      cases e with
      | normal =>
        obtain ⟨k1, k2, k3⟩ := hp
        have cL := k1.same _ _ (by omega) bL rfl
        have cD := k1.same _ _ (Nat.le_refl _) bD rfl
        have clt : w.heap.size + 1 < W3.heap.size := (Array.getElem?_eq_some_iff.1 cL).1
        exact ⟨_, _, run_endRound (P := P) none cL, rfl, ⟨hI.putObj _ k3 (by omega) cL rfl, World.putObj_heap_same clt, (World.putObj_heap_other (by omega)).trans cD⟩, kpT bK (kpT k2 (kpB _ _ _ _ (by omega) cL rfl))⟩
      | _ => exact hp.elim
    · -- behind the iterator
      rintro e W2 ⟨⟨v, rfl⟩, xs, hS, wI, wL, wD⟩
      exact ⟨none, _, run_endLoop (P := P) wL (by simp [rd]), hdone _ xs _ (Nat.le_refl _) hS (hI.putObj _ wI (by omega) wL rfl) ((World.putObj_heap_other (by omega)).trans wD)⟩

end Go.Proofs.Ythhmofmncjodfaa
