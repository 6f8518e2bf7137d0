/- Rows of integers in memory: blocks that the call made, known whole; slices that read as a list; naturals. -/
import Derived.Test.YtgpncnnlhhmjaaaGreatDoorRows
import Derived.Test.YtgpncnnlhhmjaaaGreatDoorSpec
import Derived.WalkKit
import Derived.WalkSpells
import Derived.WalkLawsBesides
import Derived.Outline
import Derived.Lib.Hide
import Derived.IntWalk
import Derived.BigQuiet
import Derived.Deep.QuietTactic
import Derived.RegionTactic
import Derived.RangeFuncRecord
import Derived.Below
import Derived.Laws.Rows
import Derived.Laws.CopyOwn
import Derived.Laws.MakeOwn
import Derived.OwnWalk
import Derived.StillTailTactics
import Derived.Deep.RegionHeld3
import Derived.BigRegion
import Derived.Laws.OwnMore
namespace Go.Proofs.YtgpncnnlhhmjaaaGreatDoor
open Go.RowKit

def Row (w : World) (g : Nat) (t : TypeId) (C : Array Value) : Prop := w.heap[g]? = some (.cells C t (0, 0))
section
variable {w w' : World} {g : Nat} {t : TypeId} {C : Array Value}
theorem Row.inside (h : Row w g t C) : g < w.heap.size := by
  rcases Nat.lt_or_ge g w.heap.size with k | k
  · exact k
  · rw [Row, Array.getElem?_eq_none k] at h; cases h
theorem Row.at (h : Row w g t C) {i : Nat} {v : Value} (hv : C[i]? = some v) : w.cell? ⟨g, i, none⟩ = some v := by
  rw [cell_of_row w g i C t (0, 0) h, hv]
theorem Row.free (h : Row w g t C) (i : Nat) : w.frozen? ⟨g, i, none⟩ = false := frozen_of_row w g i C t h
theorem Row.made (w : World) (t : TypeId) (C : Array Value) : Row (w.alloc (.cells C t)) w.heap.size t C := heap_alloc_new w _
theorem Row.made_at (w : World) (t : TypeId) (C : Array Value) {g : Nat} (h : w.heap.size = g) : Row (w.alloc (.cells C t)) g t C := by subst h; exact heap_alloc_new w _
theorem Row.later (h : Row w g t C) (o : Obj) : Row (w.alloc o) g t C := (Below.heap_alloc w o g h.inside).trans h
theorem Row.drawn (h : Row w g t C) : Row w.drew g t C := h
theorem Row.drawnN (h : Row w g t C) (n : Nat) : Row (w.drewN n) g t C := h
theorem Row.stored (h : Row w g t C) (i : Nat) (v : Value) : Row (w.setCell ⟨g, i, none⟩ v) g t (C.setIfInBounds i v) := heap_setCell_same w g i C t v h
theorem Row.aside (h : Row w g t C) {p : Addr} (hp : p.block ≠ g) (v : Value) : Row (w.setCell p v) g t C := (heap_setCell_other w p g v (fun e => hp e.symm)).trans h
theorem Row.below {B : Nat} (h : Row w g t C) (hb : Below B w w') (hg : g < B) : Row w' g t C := (hb.block g hg).trans h
theorem Row.grown {row : Option Nat} (h : Row w g t C) (hb : w.grownBy w' row) (hg : some g ≠ row) : Row w' g t C := (hb.block g h.inside hg).trans h
end
theorem below_drawnN {B : Nat} {a w : World} (h : Below B a w) (n : Nat) : Below B a (w.drewN n) := ⟨h.os, h.tape, h.output, h.size, h.block⟩
theorem below_alloc (w : World) (o : Obj) : Below w.heap.size w (w.alloc o) := (Below.refl _ w).alloc (Nat.le_refl _) _
/-- A quiet callee behind an earlier quiet region. -/
theorem quiet_more {P : Program} {f : FuncId} {args : Array Value} {w : World} {a n : Nat} {v : Value} (c : ∀ W : World, Calls P f args W fun e w' => e = .returned v ∧ w' = W) :
    Calls P f args (w.drewN (a + n)) fun e w' => e = .returned v ∧ ∃ m, w' = w.drewN (a + m) := (c _).mono fun _ _ h => ⟨h.1, n, h.2⟩
theorem quiet_moreN {P : Program} {f : FuncId} {args : Array Value} {w : World} {a n : Nat} {v : Value} (c : ∀ W : World, Calls P f args W fun e w' => e = .returned v ∧ ∃ m, w' = W.drewN m) :
    Calls P f args (w.drewN (a + n)) fun e w' => e = .returned v ∧ ∃ m, w' = w.drewN (a + m) := (c _).mono fun _ _ h => ⟨h.1, by obtain ⟨m, hm⟩ := h.2; exact ⟨n + m, by rw [hm, World.drewN_drewN, Nat.add_assoc]⟩⟩

theorem grown_of_below {a w : World} {B : Nat} (h : Below B a w) (hB : a.heap.size ≤ B) : a.grownBy w none := ⟨h.os, h.tape, h.output, h.size, fun i hi _ => h.block i (by omega)⟩
theorem own_less {w : World} {B B' : Nat} {e : TypeId} {k n : Nat} {v : Value} {xs : List Value} (h : w.ownsRow B e k v n xs) (hB : B' ≤ B) : w.ownsRow B' e k v n xs := by
  refine ⟨h.1, ?_⟩
  rcases h.2 with h0 | ⟨g, cap, cur, hv, hbase, hr⟩
  · exact .inl h0
  · exact .inr ⟨g, cap, cur, hv, Nat.le_trans hB hbase, hr⟩
theorem own_base {w X Y : World} {e : TypeId} {k n : Nat} {v : Value} {xs : List Value} (h : Y.ownsRow X.heap.size e k v n xs) (hb : Below w.heap.size w X) : Y.ownsRow w.heap.size e k v n xs := own_less h hb.size
theorem own_over {X Y : World} {B : Nat} {e : TypeId} {k n : Nat} {v : Value} {xs : List Value} (h : X.ownsRow B e k v n xs) (hb : Below X.heap.size X Y) : Y.ownsRow B e k v n xs := h.kept (grown_of_below hb (Nat.le_refl _)) (Classical.em _)
theorem below_step {w X Y : World} (h : Below w.heap.size w X) (b : Below X.heap.size X Y) : Below w.heap.size w Y := h.trans (b.mono h.size)
theorem keep_alloc {w X : World} (h : Below w.heap.size w X) (o : Obj) : Below w.heap.size w (X.alloc o) := h.alloc h.size o
theorem keep_grown {w X Y : World} {k n : Nat} {v : Value} {xs : List Value} {e : TypeId} (h : Below w.heap.size w X) (hg : X.grownBy Y v.ownBlock) (ho : X.ownsRow w.heap.size e k v n xs) : Below w.heap.size w Y := h.grown hg h.size (fun j ej => (ho.lt j ej).1)
theorem own_some {w : World} {B n : Nat} {e : TypeId} {v : Value} {xs : List Value} (h : w.ownsRow B e 1 v n xs) (hn : 0 < n) : ∃ g cap, v = .slice (some ⟨g, 0, none⟩) n cap ∧ g < w.heap.size ∧ B ≤ g := by
  rcases h.2 with ⟨_, h0⟩ | ⟨g, cap, cur, hv, hB, hg, _⟩
  · omega
  · refine ⟨g, cap, hv, ?_, hB⟩
    rcases Nat.lt_or_ge g w.heap.size with k | k
    · exact k
    · rw [Array.getElem?_eq_none k] at hg; cases hg

/-! ### integers -/
theorem int_info : (Tryz.prog.info? 3).map (fun i => (i.zero, i.size, i.bytes)) = some (some (.int .i64 0), 1, 8) := by kernel_rfl
/-- A list of integers, as cells. -/
def iV (l : List Int) : List Value := l.map fun x => Value.int .i64 x
theorem iV_len (l : List Int) : (iV l).length = l.length := by simp [iV]
theorem iV_at {l : List Int} {i : Nat} {x : Int} (h : l[i]? = some x) : (iV l)[i]? = some (.int .i64 x) := by rw [iV, List.getElem?_map, h]; rfl
theorem iV_one (l : List Int) : ∀ v ∈ iV l, v.oneCell' = true := by
  intro v hv
  obtain ⟨x, _, rfl⟩ := List.mem_map.1 hv
  rfl
/-- The block g holds just these integers. -/
def IRow (w : World) (g : Nat) (l : List Int) : Prop := Row w g 3 (iV l).toArray
theorem IRow.at {w : World} {g : Nat} {l : List Int} (h : IRow w g l) {i : Nat} {x : Int} (hx : l[i]? = some x) : w.cell? ⟨g, i, none⟩ = some (.int .i64 x) := Row.at h (by rw [List.getElem?_toArray]; exact iV_at hx)
theorem IRow.stored {w : World} {g : Nat} {l : List Int} (h : IRow w g l) (i : Nat) (x : Int) : IRow (w.setCell ⟨g, i, none⟩ (.int .i64 x)) g (l.set i x) := by
  have := Row.stored h i (.int .i64 x)
  simpa [IRow, iV, List.map_set] using this
theorem IRow.frees {w : World} {g : Nat} {l : List Int} (h : IRow w g l) (i : Nat) : w.frozen? ⟨g, i, none⟩ = false := Row.free h i
theorem IRow.lies {w : World} {g : Nat} {l : List Int} (h : IRow w g l) : g < w.heap.size := Row.inside h
theorem IRow.under {w w' : World} {g B : Nat} {l : List Int} (h : IRow w g l) (hb : Below B w w') (hg : g < B) : IRow w' g l := Row.below h hb hg
theorem IRow.drawn {w : World} {g : Nat} {l : List Int} (h : IRow w g l) : IRow w.drew g l := h
theorem iV_zeros (k : Nat) : (iV (List.replicate k 0)).toArray = madeCells #[Value.int .i64 0] k := by
  apply Array.ext_getElem?
  intro j
  by_cases h : j < k
  · simp [iV, madeCells, h, Nat.mod_one]
  · simp [iV, madeCells, h]
theorem make_ints (k : Nat) (hk : k ≤ 1000) (W : World) :
    (Instr.makeSlice 40 (.int .i64 (k : Int)) (.int .i64 (k : Int))).run Tryz.prog W = .ok (.slice (some ⟨W.heap.size, 0, none⟩) k k) (W.alloc (.cells (iV (List.replicate k 0)).toArray 3)) := by
  obtain ⟨i0, hi0, hz0, hz1, hz2⟩ := info_parts int_info
  have h := run_make (P := Tryz.prog) W 40 3 i0 (.int .i64 0) Tryz.underlying40 hi0 hz0 .i64 .i64 (k : Int) (k : Int) (by omega) (by omega) (by rw [hz2]; omega) (by omega)
  rw [h, iV_zeros, hz1]
  simp [Value.cells]

/-- The slice at A reads as the integers l; its cells lie below block B. -/
def Ints (w : World) (B : Nat) (A : Option Addr) (l : List Int) : Prop := l = [] ∨ ∃ b o, A = some ⟨b, o, none⟩ ∧ b < B ∧ ∀ i x, l[i]? = some x → w.cell? ⟨b, o + i, none⟩ = some (.int .i64 x)
section
variable {w w' : World} {B B' : Nat} {A : Option Addr} {l : List Int}
theorem Ints.below (h : Ints w B A l) (hb : Below B w w') : Ints w' B A l := by
  rcases h with h | ⟨b, o, e, hB, hc⟩
  · exact .inl h
  · exact .inr ⟨b, o, e, hB, fun i s hi => (hb.cell (p := ⟨b, o + i, none⟩) hB).trans (hc i s hi)⟩
theorem Ints.more (h : Ints w B A l) (hB' : B ≤ B') : Ints w B' A l := by
  rcases h with h | ⟨b, o, e, hB, hc⟩
  · exact .inl h
  · exact .inr ⟨b, o, e, by omega, hc⟩
theorem ints_take {b o : Nat} (hB : b < B) (hc : ∀ i x, l[i]? = some x → w.cell? ⟨b, o + i, none⟩ = some (.int .i64 x)) (k : Nat) : Ints w B (some ⟨b, o, none⟩) (l.take k) :=
  .inr ⟨b, o, rfl, hB, fun i s hi => hc i s (by rw [List.getElem?_take] at hi; split at hi; exact hi; cases hi)⟩
theorem ints_drop {b o : Nat} (hB : b < B) (hc : ∀ i x, l[i]? = some x → w.cell? ⟨b, o + i, none⟩ = some (.int .i64 x)) (k : Nat) : Ints w B (some ⟨b, o + k, none⟩) (l.drop k) :=
  .inr ⟨b, o + k, rfl, hB, fun i s hi => by rw [Nat.add_assoc]; exact hc (k + i) s (by rw [List.getElem?_drop] at hi; exact hi)⟩
theorem ints_row {g : Nat} (h : IRow w g l) (hg : g < B) (k : Nat) : Ints w B (some ⟨g, k, none⟩) (l.drop k) :=
  .inr ⟨g, k, rfl, hg, fun i s hi => h.at (by rw [List.getElem?_drop] at hi; exact hi)⟩
theorem Ints.at0 {b o : Nat} (h : Ints w B (some ⟨b, o, none⟩) l) {i : Nat} {x : Int} (hx : l[i]? = some x) : w.cell? ⟨b, o + i, none⟩ = some (.int .i64 x) := by
  rcases h with h | ⟨b', o', e, _, hc⟩
  · rw [h] at hx; cases hx
  · cases e; exact hc i x hx
end
theorem own_ints {w : World} {B n : Nat} {v : Value} (l : List Int) (hn : n = l.length) (h : w.ownsRow B 3 1 v n (iV l)) :
    ∃ A c, v = .slice A n c ∧ Ints w w.heap.size A l ∧ n ≤ c ∧ c ≤ 9223372036854775807 := by
  rcases h.2 with ⟨rfl, h0⟩ | ⟨g, cap, cur, rfl, hB, hg, hc, hm, hs, ht⟩
  · subst h0
    exact ⟨none, 0, rfl, .inl (List.eq_nil_of_length_eq_zero hn.symm), Nat.le_refl _, by omega⟩
  · refine ⟨_, cap, rfl, .inr ⟨g, 0, rfl, ?_, fun i x hi => ?_⟩, hc, by unfold maxLen at hm; omega⟩
    · rcases Nat.lt_or_ge g w.heap.size with k | k
      · exact k
      · rw [Array.getElem?_eq_none k] at hg; cases hg
    · rw [Nat.zero_add]
      refine Row.at hg ?_
      have hi' := iV_at hi
      rw [← ht, List.getElem?_take] at hi'
      split at hi'
      · simpa using hi'
      · cases hi'
/-- The slice A, L, c is the natural n. -/
structure Nt (w : World) (B : Nat) (A : Option Addr) (L c n : Nat) : Prop where
  len : L = (grp n).length
  cap : L ≤ c
  top : c ≤ 9223372036854775807
  ints : Ints w B A (grp n)
theorem Nt.below {w w' : World} {B : Nat} {A : Option Addr} {L c n : Nat} (h : Nt w B A L c n) (hb : Below B w w') : Nt w' B A L c n := ⟨h.len, h.cap, h.top, h.ints.below hb⟩
theorem Nt.more {w : World} {B B' : Nat} {A : Option Addr} {L c n : Nat} (h : Nt w B A L c n) (hB : B ≤ B') : Nt w B' A L c n := ⟨h.len, h.cap, h.top, h.ints.more hB⟩
theorem Nt.recap {w : World} {B : Nat} {A : Option Addr} {L c c' n : Nat} (h : Nt w B A L c n) (h1 : L ≤ c') (h2 : c' ≤ 9223372036854775807) : Nt w B A L c' n := ⟨h.len, h1, h2, h.ints⟩
/-- A natural stays a natural. -/
theorem Nt.keep {w w' : World} {B : Nat} {A : Option Addr} {L c n : Nat} (h : Nt w w.heap.size A L c n) (hb : Below w.heap.size w w') (hB : w.heap.size ≤ B) : Nt w' B A L c n := (h.below hb).more hB
theorem Nt.kept {w w' : World} {A : Option Addr} {L c n : Nat} (h : Nt w w.heap.size A L c n) (hb : Below w.heap.size w w') : Nt w' w'.heap.size A L c n := h.keep hb hb.size
theorem Nt.lt_aux {w X W : World} {B g : Nat} (hB : B ≤ w.heap.size) (hg : g < B) (hh : X.heap = w.heap) (b : Below X.heap.size X W) : g < W.heap.size := by
  have := b.size
  rw [hh] at this
  omega
theorem Nt.later {w X W : World} {B : Nat} {A : Option Addr} {L c n : Nat} (h : Nt w B A L c n) (hB : B ≤ w.heap.size) (hh : X.heap = w.heap) (b : Below X.heap.size X W) : Nt W W.heap.size A L c n := by
  refine ⟨h.len, h.cap, h.top, ?_⟩
  rcases h.ints with e | ⟨g, o, e, hg, hc⟩
  · exact .inl e
  · refine .inr ⟨g, o, e, Nt.lt_aux hB hg hh b, fun i x hi => ?_⟩
    have h1 := (b.cell (p := ⟨g, o + i, none⟩) (show g < X.heap.size by rw [hh]; omega)).trans (show X.cell? ⟨g, o + i, none⟩ = some (.int .i64 x) by rw [← hc i x hi]; unfold World.cell?; rw [hh])
    exact h1
theorem nt_zero (w : World) (B : Nat) : Nt w B none 0 0 0 := ⟨by rw [grp_zero]; rfl, Nat.le_refl _, by omega, .inl grp_zero⟩
theorem Nt.none_zero {w : World} {B L c n : Nat} (h : Nt w B none L c n) : n = 0 := by
  rcases h.ints with e | ⟨b, o, e, _⟩
  · exact grp_nil.1 e
  · cases e
end Go.Proofs.YtgpncnnlhhmjaaaGreatDoor
