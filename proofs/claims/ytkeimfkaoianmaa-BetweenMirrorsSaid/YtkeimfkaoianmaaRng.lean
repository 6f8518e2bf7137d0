/- A range over a function whose iterator writes blocks that it has laid since the round before, and whose rounds may leave by return: the statement's walk. -/
import Derived.RangeFuncNested
import Derived.RangeFuncBound
import Derived.RangeFuncCalls
import Derived.RangeFuncLeaves
import Derived.RangeFuncBox
import Derived.Shelf.Abstract
import Derived.Shelf.RegionOpen
import Derived.OwnWalkIn
import Derived.TacticsInMore
import Derived.LoopNIn
import Derived.LoopIn
import Derived.Test.YtkeimfkaoianmaaMem
namespace Go.Proofs.Ytkeimfkaoianmaa
open Go.RowKit Go.Shelf

/-- New blocks alone, or a turn of a block from B on that holds no cells. -/
def Quiet1 (B : Nat) (X Y : World) : Prop := ∃ row, X.grownBy Y row ∧ ∀ r, row = some r → B ≤ r ∧ ∃ o, X.heap[r]? = some o ∧ o.isCells = false
theorem Quiet1.of_none {B : Nat} {X Y : World} (h : X.grownBy Y none) : Quiet1 B X Y := ⟨none, h, by simp⟩
theorem Quiet1.put {B l : Nat} {X : World} {o o' : Obj} (hl : X.heap[l]? = some o) (hB : B ≤ l) (hc : o.isCells = false) : Quiet1 B X (X.putObj l o') := ⟨some l, grownBy_putObj' _ _ _, fun r e => by cases e; exact ⟨hB, o, hl, hc⟩⟩
/-- The iterator's contract: at most K rounds; round k is handed an x of which G holds. What the rounds lay lies at lo or beyond; what lies at z or beyond was laid since the round before. -/
def Hands {α : Type} (F : Fence) (m : Nat) (P : Program) (gf : Nat) (lb : Array Value) (enc : α → Array Value) (K : Nat) (G : Nat → Nat → Nat → α → World → Prop) (Kp : Nat → Nat → α → World → World → Prop) (w : World) : Prop :=
  ∀ (l : Nat) (J : Nat → Nat → Nat → World → Prop) (Jx : World → Prop) (W : World), w.grownBy W none →
    (∀ k lo z X Y, J k lo z X → X.grownBy Y none → J k lo z Y) → (∀ X Y, Jx X → X.grownBy Y none → Jx Y) →
    (∀ k lo z x X, k < K → J k lo z X → G k lo z x X → YieldAt F (m - 1) P l (enc x) X fun e Y => (e = .returned (.bool true) ∧ J (k + 1) lo Y.heap.size Y ∧ Kp k lo x X Y) ∨ (e = .returned (.bool false) ∧ Jx Y)) → (∀ lo, J 0 lo W.heap.size W) →
    CallsIn F m P gf (#[.func (.yield l) #[] #[]] ++ lb) W fun e Y => (∃ v, e = .returned v) ∧ ((∃ lo z, J K lo z Y) ∨ Jx Y)

theorem grown_join {X Y Z : World} {row : Option Nat} (h : X.grownBy Y row) (k : Y.grownBy Z row) : X.grownBy Z row :=
  ⟨k.os.trans h.os, k.tape.trans h.tape, k.output.trans h.output, Nat.le_trans h.size k.size, fun i hi hne => (k.block i (Nat.lt_of_lt_of_le hi h.size) hne).trans (h.block i hi hne)⟩

/-- How a round's body is left: at its end, or by return. -/
def RoundEnd {α : Type} (I : Nat → Nat → Nat → World → Prop) (Ix : World → Prop) (Kp : Nat → Nat → α → World → World → Prop) (B : Nat) (k lo : Nat) (x : α) (W : World) : Exit → Act → World → Prop
  | .normal, _, Y => I (k + 1) lo Y.heap.size Y ∧ Kp k lo x W Y ∧ ∀ l o, B ≤ l → W.heap[l]? = some o → o.isCells = false → Y.heap[l]? = some o
  | .ret, _, Y => Ix Y ∧ ∀ l o, B ≤ l → W.heap[l]? = some o → o.isCells = false → Y.heap[l]? = some o
  | _, _, _ => False

theorem range_some {α : Type} {F : Fence} {n : Nat} {P : Program} {g : Operand} {ps : Array Tmp} {assign body : Code} {Q : Exit → Act → World → Prop} {a : Act} {w : World}
    (hro : F.round = none) (h1 : 1 ≤ n) {gf : Nat} {lb : Array Value} (hg : a.eval g = .func (.func gf) #[] lb) (hFg : F.fn gf) (eg : ∀ args w, (callFunc gf args).run P w = .ok (.enter gf args) w)
    {enc : α → Array Value} {K : Nat} {G : Nat → Nat → Nat → α → World → Prop} {Kp : Nat → Nat → α → World → World → Prop} (hps : ∀ x, (enc x).size = ps.size) (hseq : Hands F (n - 1) P gf lb enc K G Kp w)
    (hG : ∀ k lo z x X Y, G k lo z x X → Quiet1 w.heap.size X Y → G k lo z x Y)
    (hK1 : ∀ k lo x X Y Z, Quiet1 w.heap.size X Y → Kp k lo x Y Z → Kp k lo x X Z) (hK2 : ∀ k lo x X Y Z, Kp k lo x X Y → Quiet1 w.heap.size Y Z → Kp k lo x X Z)
    (I : Nat → Nat → Nat → World → Prop) (Ix : World → Prop) (hI : ∀ k lo z X Y, I k lo z X → Quiet1 w.heap.size X Y → I k lo z Y) (hz : ∀ k lo z z' X, I k lo z X → z ≤ z' → I k lo z' X) (hIx : ∀ X Y, Ix X → Quiet1 w.heap.size X Y → Ix Y) (h0 : ∀ lo, I 0 lo w.heap.size w)
    (hround : ∀ (l k lo z : Nat) (x : α) (W : World) (T : Act → World → Prop), w.heap.size ≤ l → l < W.heap.size → I k lo z W → G k lo z x W → k < K →
      (∀ a₁ W₁, I k lo z W₁ → G k lo z x W₁ → W.grownBy W₁ none → (∀ W₂, I k lo z W₂ → G k lo z x W₂ → W₁.grownBy W₂ (some l) → body.wpIn (F.inRound l) (n - 1 - 1) P (RoundEnd I Ix Kp w.heap.size k lo x W₂) a₁ W₂) → T a₁ W₁) →
      assign.wpIn (F.inRound l) (n - 1 - 1) P (Exit.then T (fun _ _ _ => False)) { tmps := (ps.zip (enc x)).foldl (fun t (p, v) => t.setIfInBounds p v) a.tmps, defers := [] } W)
    (hdone : ∀ (D lo z : Nat) (W : World), w.heap.size ≤ D → I K lo z W → W.heap[D]? = some (.deferred (some [])) → Q .normal { a with defers := { target := .collected D, args := #[] } :: a.defers } W)
    (hstop : ∀ (D : Nat) (W : World), w.heap.size ≤ D → Ix W → W.heap[D]? = some (.deferred (some [])) → Code.ret.wpIn F n P Q { a with defers := { target := .collected D, args := #[] } :: a.defers } W) :
    (Code.rangeFunc g ps assign body).wpIn F n P Q a w := by
  refine wpIn_rangeFunc fun fn hfn => ?_
  rw [hro]
  let rec' (st : LoopState) (pe : Option Code) : Loop := { state := st, pending := pe, fn, tmps := a.tmps, params := ps, assign, body, defers := w.heap.size }
  let W1 := (w.alloc (.deferred (some []))).alloc (.loop (rec' .ready none))
  have hL1 : W1.heap[w.heap.size + 1]? = some (.loop (rec' .ready none)) := by
    have := World.alloc_heap_new (w.alloc (.deferred (some []))) (.loop (rec' .ready none))
    rwa [World.size_alloc] at this
  have hD1 : W1.heap[w.heap.size]? = some (.deferred (some [])) := (Below.heap_alloc _ _ _ (by simp)).trans (World.alloc_heap_new w _)
  have hz1 : W1.heap.size = w.heap.size + 1 + 1 := by simp [W1]
  have hgr : w.grownBy W1 none := grown_join (World.grownBy_alloc w _ none) (World.grownBy_alloc _ _ none)
  refine ⟨w.heap.size + 1, [{ target := .collected w.heap.size, args := #[] }], W1, { target := .fn (.func gf) lb, args := #[.func (.yield (w.heap.size + 1)) #[] #[]] }, W1, gf,
    #[.func (.yield (w.heap.size + 1)) #[] #[]] ++ lb, W1, run_enterLoop_outer _ _ _ _ _, ?_, ?_, ?_, fun _ => h1, ?_⟩
  · simp only [resolve, hg]; simp [go_sem]
  · intro f' hf'; simp [Target.leads] at hf'; subst hf'; exact hFg
  · simp [invoke, go_sem, eg]
  refine (hseq (w.heap.size + 1) (fun k lo z X => I k lo z X ∧ X.heap[w.heap.size + 1]? = some (.loop (rec' .ready none)) ∧ X.heap[w.heap.size]? = some (.deferred (some [])))
    (fun X => Ix X ∧ X.heap[w.heap.size + 1]? = some (.loop (rec' .done (some .ret))) ∧ X.heap[w.heap.size]? = some (.deferred (some []))) W1 hgr ?_ ?_ ?_
    (fun lo => ⟨hz 0 lo w.heap.size _ _ (hI _ _ _ _ _ (h0 lo) (.of_none hgr)) (by omega), hL1, hD1⟩)).mono ?_
  · rintro k lo z X Y ⟨hi, hl, hd⟩ hXY
    have lt1 := (Array.getElem?_eq_some_iff.1 hl).1
    exact ⟨hI _ _ _ _ _ hi (.of_none hXY), (hXY.block _ lt1 (by simp)).trans hl, (hXY.block _ (by omega) (by simp)).trans hd⟩
  · rintro X Y ⟨hi, hl, hd⟩ hXY
    have lt1 := (Array.getElem?_eq_some_iff.1 hl).1
    exact ⟨hIx _ _ hi (.of_none hXY), (hXY.block _ lt1 (by simp)).trans hl, (hXY.block _ (by omega) (by simp)).trans hd⟩
  · rintro k lo z x X hk ⟨hi, hl, hd⟩ hgx
    have lt1 := (Array.getElem?_eq_some_iff.1 hl).1
    have hy := run_yield (P := P) (args := enc x) hl (hps x)
    refine ⟨fn, _, assign, body, hy, roundIn_of_wpIn hfn (wpIn_mono (hround _ k lo z x X (fun a₁ W₁ => I k lo z W₁ ∧ G k lo z x W₁ ∧ X.grownBy W₁ none ∧ ∀ W₂, I k lo z W₂ → G k lo z x W₂ → W₁.grownBy W₂ (some (w.heap.size + 1)) → body.wpIn (F.inRound (w.heap.size + 1)) (n - 1 - 1) P (RoundEnd I Ix Kp w.heap.size k lo x W₂) a₁ W₂) (by omega) lt1 hi hgx hk (fun _ _ h1 h2 h3 h4 => ⟨h1, h2, h3, h4⟩)) ?_)⟩
    intro e a₁ X₁ hpost
    cases e with
    | normal => ?_
    | _ => exact hpost
    obtain ⟨hi1, hgx1, hg1, hb1⟩ := hpost
    have hl1 : X₁.heap[w.heap.size + 1]? = some (.loop (rec' .ready none)) := (hg1.block _ lt1 (by simp)).trans hl
    have hd1 : X₁.heap[w.heap.size]? = some (.deferred (some [])) := (hg1.block _ (by omega) (by simp)).trans hd
    have lt2 := (Array.getElem?_eq_some_iff.1 hl1).1
    refine ⟨_, run_beginRound hl1 rfl, ?_⟩
    have gb : X₁.grownBy (X₁.putObj (w.heap.size + 1) (.loop (rec' .busy none))) (some (w.heap.size + 1)) := grownBy_putObj' _ _ _
    have qb : Quiet1 w.heap.size X₁ (X₁.putObj (w.heap.size + 1) (.loop (rec' .busy none))) := Quiet1.put hl1 (Nat.le_succ _) rfl
    have hl2 : (X₁.putObj (w.heap.size + 1) (.loop (rec' .busy none))).heap[w.heap.size + 1]? = some (.loop (rec' .busy none)) := World.putObj_heap_same lt2
    have hd2 : (X₁.putObj (w.heap.size + 1) (.loop (rec' .busy none))).heap[w.heap.size]? = some (.deferred (some [])) := (World.putObj_heap_other (by omega)).trans hd1
    refine wpIn_mono (hb1 _ (hI _ _ _ _ _ hi1 qb) (hG _ _ _ _ _ _ hgx1 qb) gb) ?_
    rintro e a3 Y hpost
    cases e with
    | normal =>
      obtain ⟨hi3, hk3, hkeep⟩ := hpost
      have hl3 := hkeep _ _ (Nat.le_succ _) hl2 rfl
      have hd3 := hkeep _ _ (Nat.le_refl _) hd2 rfl
      have lt3 := (Array.getElem?_eq_some_iff.1 hl3).1
      have qe : Quiet1 w.heap.size Y (Y.putObj (w.heap.size + 1) (.loop (rec' .ready none))) := Quiet1.put hl3 (Nat.le_succ _) rfl
      refine ⟨_, _, run_endRound (P := P) none hl3, .inl ⟨rfl, ⟨hz _ _ _ _ _ (hI _ _ _ _ _ hi3 qe) (by simp), World.putObj_heap_same lt3, (World.putObj_heap_other (by omega)).trans hd3⟩, ?_⟩⟩
      exact hK1 _ _ _ _ _ _ (.of_none hg1) (hK1 _ _ _ _ _ _ qb (hK2 _ _ _ _ _ _ hk3 qe))
    | ret =>
      obtain ⟨hi3, hkeep⟩ := hpost
      have hl3 := hkeep _ _ (Nat.le_succ _) hl2 rfl
      have hd3 := hkeep _ _ (Nat.le_refl _) hd2 rfl
      have lt3 := (Array.getElem?_eq_some_iff.1 hl3).1
      have qe : Quiet1 w.heap.size Y (Y.putObj (w.heap.size + 1) (.loop (rec' .done (some .ret)))) := Quiet1.put hl3 (Nat.le_succ _) rfl
      exact ⟨_, _, run_endRound (P := P) (some .ret) hl3, .inr ⟨rfl, hIx _ _ hi3 qe, World.putObj_heap_same lt3, (World.putObj_heap_other (by omega)).trans hd3⟩⟩
    | _ => exact hpost.elim
  · rintro e Y ⟨⟨v, rfl⟩, ⟨lo, z, hi, hl, hd⟩ | ⟨hi, hl, hd⟩⟩
    · exact ⟨none, _, run_endLoop (P := P) hl (by simp [rec']), hdone _ lo z _ (Nat.le_refl _) (hI _ _ _ _ _ hi (Quiet1.put hl (Nat.le_succ _) rfl)) ((World.putObj_heap_other (by omega)).trans hd)⟩
    · exact ⟨some .ret, _, run_endLoop (P := P) hl (by simp [rec']), hstop _ _ (Nat.le_refl _) (hIx _ _ hi (Quiet1.put hl (Nat.le_succ _) rfl)) ((World.putObj_heap_other (by omega)).trans hd)⟩
end Go.Proofs.Ytkeimfkaoianmaa
