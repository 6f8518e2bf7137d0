/- A block of cells that the call made, known whole: how it reads behind draws, new blocks and stores. -/
import Derived.Test.YtjcamhekhfokhaaDoorRot
import Derived.RangeFuncRecord
import Derived.Below
import Derived.Laws.Rows
namespace Go.Proofs.YtjcamhekhfokhaaDoor
open Go.RowKit

def Row (w : World) (g : Nat) (t : TypeId) (C : Array Value) : Prop := w.heap[g]? = some (.cells C t (0, 0))
section
variable {w w' : World} {g : Nat} {t : TypeId} {C : Array Value}
theorem Row.inside (h : Row w g t C) : g < w.heap.size := by
  rcases Nat.lt_or_ge g w.heap.size with k | k
  · exact k
  · rw [Row, Array.getElem?_eq_none k] at h; cases h
theorem Row.at (h : Row w g t C) {i : Nat} {v : Value} (hv : C[i]? = some v) : w.cell? ⟨g, i, none⟩ = some v := by
  rw [cell_of_row w g i C t (0, 0) h, hv]
theorem Row.free (h : Row w g t C) (i : Nat) : w.frozen? ⟨g, i, none⟩ = false := frozen_of_row w g i C t h
theorem Row.made (w : World) (t : TypeId) (C : Array Value) : Row (w.alloc (.cells C t)) w.heap.size t C := heap_alloc_new w _
theorem Row.made_at (w : World) (t : TypeId) (C : Array Value) {g : Nat} (h : w.heap.size = g) : Row (w.alloc (.cells C t)) g t C := by subst h; exact heap_alloc_new w _
theorem Row.later (h : Row w g t C) (o : Obj) : Row (w.alloc o) g t C := (Below.heap_alloc w o g h.inside).trans h
theorem Row.drawn (h : Row w g t C) : Row w.drew g t C := h
theorem Row.drawnN (h : Row w g t C) (n : Nat) : Row (w.drewN n) g t C := h
theorem Row.stored (h : Row w g t C) (i : Nat) (v : Value) : Row (w.setCell ⟨g, i, none⟩ v) g t (C.setIfInBounds i v) := heap_setCell_same w g i C t v h
theorem Row.aside (h : Row w g t C) {p : Addr} (hp : p.block ≠ g) (v : Value) : Row (w.setCell p v) g t C := (heap_setCell_other w p g v (fun e => hp e.symm)).trans h
theorem Row.below {B : Nat} (h : Row w g t C) (hb : Below B w w') (hg : g < B) : Row w' g t C := (hb.block g hg).trans h
theorem Row.whole (h : Row w g t C) (D : Array Value) : Row (w.setRow g D) g t D := setRow_heap w g C D t (0, 0) h
theorem Row.aside_row (h : Row w g t C) {k : Nat} (hk : g ≠ k) (D : Array Value) : Row (w.setRow k D) g t C := (setRow_other w k g D hk).trans h
theorem Row.grown {row : Option Nat} (h : Row w g t C) (hb : w.grownBy w' row) (hg : some g ≠ row) : Row w' g t C := (hb.block g h.inside hg).trans h
end
/-- A quiet callee behind an earlier quiet region. -/
theorem quiet_more {P : Program} {f : FuncId} {args : Array Value} {w : World} {a n : Nat} {v : Value} (c : ∀ W : World, Calls P f args W fun e w' => e = .returned v ∧ w' = W) :
    Calls P f args (w.drewN (a + n)) fun e w' => e = .returned v ∧ ∃ m, w' = w.drewN (a + m) := (c _).mono fun _ _ h => ⟨h.1, n, h.2⟩
theorem quiet_moreN {P : Program} {f : FuncId} {args : Array Value} {w : World} {a n : Nat} {v : Value} (c : ∀ W : World, Calls P f args W fun e w' => e = .returned v ∧ ∃ m, w' = W.drewN m) :
    Calls P f args (w.drewN (a + n)) fun e w' => e = .returned v ∧ ∃ m, w' = w.drewN (a + m) := (c _).mono fun _ _ h => ⟨h.1, by obtain ⟨m, hm⟩ := h.2; exact ⟨n + m, by rw [hm, World.drewN_drewN, Nat.add_assoc]⟩⟩
theorem below_row {B : Nat} {a w : World} (h : Below B a w) {g : Nat} (hg : B ≤ g) (D : Array Value) : Below B a (w.setRow g D) :=
  ⟨h.os, h.tape, h.output, by rw [setRow_size]; exact h.size, fun i hi => (setRow_other w g i D (by omega)).trans (h.block i hi)⟩
theorem below_drawnN {B : Nat} {a w : World} (h : Below B a w) (n : Nat) : Below B a (w.drewN n) := ⟨h.os, h.tape, h.output, h.size, h.block⟩
end Go.Proofs.YtjcamhekhfokhaaDoor
