/- A range over a function whose iterator writes a block of its own between two rounds, and whose rounds all go on: the statement's walk. -/
import Derived.RangeFuncNested
import Derived.RangeFuncBound
import Derived.RangeFuncCalls
import Derived.RangeFuncLeaves
import Derived.RangeFuncBox
import Derived.Shelf.Abstract
import Derived.Shelf.RegionOpen
import Derived.OwnWalkIn
import Derived.TacticsInMore
import Derived.LoopNIn
import Derived.LoopIn
import Derived.Test.YtjcamhekhfokhaaDoorMem
namespace Go.Proofs.YtjcamhekhfokhaaDoor
open Go.RowKit Go.Shelf

/-- Whatever turns a block from B on, or lays new ones, leaves I as it was. -/
def Above (B : Nat) (I : Nat → World → Prop) : Prop := ∀ k X Y row, I k X → X.grownBy Y row → (∀ r, row = some r → B ≤ r) → I k Y
/-- The iterator's contract: K elements, for every caller that keeps J, whose rounds turn no block that is there but Bs. -/
def Hands (F : Fence) (m : Nat) (P : Program) (gf : Nat) (lb : Array Value) (encs : Nat → Array Value) (K Bs : Nat) (w : World) : Prop :=
  ∀ (l : Nat) (J : Nat → World → Prop) (W : World), w.grownBy W none → Above W.heap.size J →
    (∀ k X, k < K → J k X → YieldAt F (m - 1) P l (encs k) X fun e Y => e = .returned (.bool true) ∧ J (k + 1) Y ∧ X.grownBy Y (some Bs)) → J 0 W →
    CallsIn F m P gf (#[.func (.yield l) #[] #[]] ++ lb) W fun e Y => (∃ v, e = .returned v) ∧ J K Y

theorem grown_join {X Y Z : World} {row : Option Nat} (h : X.grownBy Y row) (k : Y.grownBy Z row) : X.grownBy Z row :=
  ⟨k.os.trans h.os, k.tape.trans h.tape, k.output.trans h.output, Nat.le_trans h.size k.size, fun i hi hne => (k.block i (Nat.lt_of_lt_of_le hi h.size) hne).trans (h.block i hi hne)⟩
theorem grown_any {X Y : World} (h : X.grownBy Y none) (row : Option Nat) : X.grownBy Y row := ⟨h.os, h.tape, h.output, h.size, fun i hi _ => h.block i hi (by simp)⟩

/-- How a round's body is left: at its end, the next invariant, no block turned but Bs. -/
def RoundEnd (I : Nat → World → Prop) (k Bs : Nat) (W : World) : Exit → Act → World → Prop := fun e _ Y => e = .normal ∧ I (k + 1) Y ∧ W.grownBy Y (some Bs)

theorem range_all {F : Fence} {n : Nat} {P : Program} {g : Operand} {ps : Array Tmp} {assign body : Code} {Q : Exit → Act → World → Prop} {a : Act} {w : World}
    (hro : F.round = none) (h1 : 1 ≤ n) {gf : Nat} {lb : Array Value} (hg : a.eval g = .func (.func gf) #[] lb) (hFg : F.fn gf) (eg : ∀ args w, (callFunc gf args).run P w = .ok (.enter gf args) w)
    {encs : Nat → Array Value} {K Bs : Nat} (hps : ∀ k, (encs k).size = ps.size) (hseq : Hands F (n - 1) P gf lb encs K Bs w) (hBs : Bs < w.heap.size)
    (I : Nat → World → Prop) (hI : Above w.heap.size I) (h0 : I 0 w)
    (hround : ∀ (l k : Nat) (W : World) (T : Act → World → Prop), w.heap.size ≤ l → l < W.heap.size → I k W → k < K →
      (∀ a₁ W₁, I k W₁ → W.grownBy W₁ none → (∀ W₂, W₁.grownBy W₂ (some l) → I k W₂ → body.wpIn (F.inRound l) (n - 1 - 1) P (RoundEnd I k Bs W₂) a₁ W₂) → T a₁ W₁) →
      assign.wpIn (F.inRound l) (n - 1 - 1) P (Exit.then T (fun _ _ _ => False)) { tmps := (ps.zip (encs k)).foldl (fun t (p, v) => t.setIfInBounds p v) a.tmps, defers := [] } W)
    (hdone : ∀ (D : Nat) (W : World), w.heap.size ≤ D → I K W → W.heap[D]? = some (.deferred (some [])) → Q .normal { a with defers := { target := .collected D, args := #[] } :: a.defers } W) :
    (Code.rangeFunc g ps assign body).wpIn F n P Q a w := by
  refine wpIn_rangeFunc fun fn hfn => ?_
  rw [hro]
  let rec' (st : LoopState) : Loop := { state := st, pending := none, fn, tmps := a.tmps, params := ps, assign, body, defers := w.heap.size }
  let W1 := (w.alloc (.deferred (some []))).alloc (.loop (rec' .ready))
  have hL1 : W1.heap[w.heap.size + 1]? = some (.loop (rec' .ready)) := by
    have := World.alloc_heap_new (w.alloc (.deferred (some []))) (.loop (rec' .ready))
    rwa [World.size_alloc] at this
  have hD1 : W1.heap[w.heap.size]? = some (.deferred (some [])) := (Below.heap_alloc _ _ _ (by simp)).trans (World.alloc_heap_new w _)
  have hz1 : W1.heap.size = w.heap.size + 1 + 1 := by simp [W1]
  have hgr : w.grownBy W1 none := grown_join (World.grownBy_alloc w _ none) (World.grownBy_alloc _ _ none)
  refine ⟨w.heap.size + 1, [{ target := .collected w.heap.size, args := #[] }], W1, { target := .fn (.func gf) lb, args := #[.func (.yield (w.heap.size + 1)) #[] #[]] }, W1, gf,
    #[.func (.yield (w.heap.size + 1)) #[] #[]] ++ lb, W1, run_enterLoop_outer _ _ _ _ _, ?_, ?_, ?_, fun _ => h1, ?_⟩
  · simp only [resolve, hg]; simp [go_sem]
  · intro f' hf'; simp [Target.leads] at hf'; subst hf'; exact hFg
  · simp [invoke, go_sem, eg]
  refine (hseq (w.heap.size + 1) (fun k X => I k X ∧ X.heap[w.heap.size + 1]? = some (.loop (rec' .ready)) ∧ X.heap[w.heap.size]? = some (.deferred (some []))) W1 hgr ?_ ?_
    ⟨hI _ _ _ none h0 hgr (by simp), hL1, hD1⟩).mono ?_
  · rintro k X Y row ⟨hi, hl, hd⟩ hXY hrow
    have lt1 := (Array.getElem?_eq_some_iff.1 hl).1
    refine ⟨hI k X Y row hi hXY (fun r e => by have := hrow r e; omega), (hXY.block _ lt1 (fun e => ?_)).trans hl, (hXY.block _ (by omega) (fun e => ?_)).trans hd⟩
    · have := hrow _ e.symm; omega
    · have := hrow _ e.symm; omega
  · rintro k X hk ⟨hi, hl, hd⟩
    have lt1 := (Array.getElem?_eq_some_iff.1 hl).1
    have hy := run_yield (P := P) (args := encs k) hl (hps k)
    refine ⟨fn, _, assign, body, hy, roundIn_of_wpIn hfn (wpIn_mono (hround _ k X (fun a₁ W₁ => I k W₁ ∧ X.grownBy W₁ none ∧ ∀ W₂, W₁.grownBy W₂ (some (w.heap.size + 1)) → I k W₂ → body.wpIn (F.inRound (w.heap.size + 1)) (n - 1 - 1) P (RoundEnd I k Bs W₂) a₁ W₂) (by omega) lt1 hi hk (fun _ _ h1 h2 h3 => ⟨h1, h2, h3⟩)) ?_)⟩
    intro e a₁ X₁ hpost
    cases e with
    | normal => ?_
    | _ => exact hpost
    obtain ⟨hi1, hg1, hb1⟩ := hpost
    have hl1 : X₁.heap[w.heap.size + 1]? = some (.loop (rec' .ready)) := (hg1.block _ lt1 (by simp)).trans hl
    have hd1 : X₁.heap[w.heap.size]? = some (.deferred (some [])) := (hg1.block _ (by omega) (by simp)).trans hd
    have lt2 := (Array.getElem?_eq_some_iff.1 hl1).1
    refine ⟨_, run_beginRound hl1 rfl, ?_⟩
    have gb : X₁.grownBy (X₁.putObj (w.heap.size + 1) (.loop (rec' .busy))) (some (w.heap.size + 1)) := grownBy_putObj' _ _ _
    have hl2 : (X₁.putObj (w.heap.size + 1) (.loop (rec' .busy))).heap[w.heap.size + 1]? = some (.loop (rec' .busy)) := World.putObj_heap_same lt2
    refine wpIn_mono (hb1 _ gb (hI k _ _ _ hi1 gb (fun r e => by cases e; omega))) ?_
    rintro e a3 Y ⟨rfl, hi3, hg3⟩
    have hl3 : Y.heap[w.heap.size + 1]? = some (.loop (rec' .busy)) := (hg3.block _ (Array.getElem?_eq_some_iff.1 hl2).1 (fun e => by injection e with e; omega)).trans hl2
    have hd3 : Y.heap[w.heap.size]? = some (.deferred (some [])) :=
      (hg3.block _ (by simp; omega) (fun e => by injection e with e; omega)).trans ((World.putObj_heap_other (by omega)).trans hd1)
    have lt3 := (Array.getElem?_eq_some_iff.1 hl3).1
    refine ⟨_, _, run_endRound (P := P) none hl3, rfl, ⟨hI _ _ _ _ hi3 (grownBy_putObj' _ _ _) (fun r e => by cases e; omega), World.putObj_heap_same lt3, (World.putObj_heap_other (by omega)).trans hd3⟩, ?_⟩
    refine ⟨hg3.os.trans hg1.os, hg3.tape.trans hg1.tape, hg3.output.trans hg1.output, by have := hg3.size; have := hg1.size; simp at *; omega, fun i hi' hne => ?_⟩
    have hi1' := Nat.lt_of_lt_of_le hi' hg1.size
    by_cases e : i = w.heap.size + 1
    · subst e
      rw [hl]
      exact World.putObj_heap_same lt3
    · rw [World.putObj_heap_other e, hg3.block i (by simpa using hi1') hne, World.putObj_heap_other e, hg1.block i hi' (by simp)]
  · rintro e Y ⟨⟨v, rfl⟩, hi, hl, hd⟩
    exact ⟨none, _, run_endLoop (P := P) hl (by simp [rec']), hdone _ _ (Nat.le_refl _) (hI _ _ _ _ hi (grownBy_putObj' _ _ _) (fun r e => by cases e; omega)) ((World.putObj_heap_other (by omega)).trans hd)⟩
end Go.Proofs.YtjcamhekhfokhaaDoor
