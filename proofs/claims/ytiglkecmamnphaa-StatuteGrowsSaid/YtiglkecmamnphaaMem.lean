/- Memory: blocks that the call made, known whole. -/
import Derived.Test.YtiglkecmamnphaaRows
import Derived.Test.YtiglkecmamnphaaDc
import Derived.WalkKit
import Derived.WalkSpells
import Derived.WalkLawsBesides
import Derived.Outline
import Derived.Lib.Hide
import Derived.IntWalk
import Derived.BigQuiet
import Derived.Deep.QuietTactic
import Derived.RegionTactic
import Derived.RangeFuncRecord
import Derived.Below
import Derived.Laws.Rows
import Derived.Laws.CopyOwn
import Derived.Laws.MakeOwn
import Derived.OwnWalk
import Derived.StillTailTactics
import Derived.Deep.RegionHeld3
import Derived.BigRegion
import Derived.Laws.OwnMore
namespace Go.Proofs.Ytiglkecmamnphaa
open Go.RowKit

def Row (w : World) (g : Nat) (t : TypeId) (C : Array Value) : Prop := w.heap[g]? = some (.cells C t (0, 0))
section
variable {w w' : World} {g : Nat} {t : TypeId} {C : Array Value}
theorem Row.inside (h : Row w g t C) : g < w.heap.size := by
  rcases Nat.lt_or_ge g w.heap.size with k | k
  · exact k
  · rw [Row, Array.getElem?_eq_none k] at h; cases h
theorem Row.at (h : Row w g t C) {i : Nat} {v : Value} (hv : C[i]? = some v) : w.cell? ⟨g, i, none⟩ = some v := by
  rw [cell_of_row w g i C t (0, 0) h, hv]
theorem Row.free (h : Row w g t C) (i : Nat) : w.frozen? ⟨g, i, none⟩ = false := frozen_of_row w g i C t h
theorem Row.made (w : World) (t : TypeId) (C : Array Value) : Row (w.alloc (.cells C t)) w.heap.size t C := heap_alloc_new w _
theorem Row.made_at (w : World) (t : TypeId) (C : Array Value) {g : Nat} (h : w.heap.size = g) : Row (w.alloc (.cells C t)) g t C := by subst h; exact heap_alloc_new w _
theorem Row.later (h : Row w g t C) (o : Obj) : Row (w.alloc o) g t C := (Below.heap_alloc w o g h.inside).trans h
theorem Row.drawn (h : Row w g t C) : Row w.drew g t C := h
theorem Row.drawnN (h : Row w g t C) (n : Nat) : Row (w.drewN n) g t C := h
theorem Row.stored (h : Row w g t C) (i : Nat) (v : Value) : Row (w.setCell ⟨g, i, none⟩ v) g t (C.setIfInBounds i v) := heap_setCell_same w g i C t v h
theorem Row.aside (h : Row w g t C) {p : Addr} (hp : p.block ≠ g) (v : Value) : Row (w.setCell p v) g t C := (heap_setCell_other w p g v (fun e => hp e.symm)).trans h
theorem Row.below {B : Nat} (h : Row w g t C) (hb : Below B w w') (hg : g < B) : Row w' g t C := (hb.block g hg).trans h
theorem Row.grown {row : Option Nat} (h : Row w g t C) (hb : w.grownBy w' row) (hg : some g ≠ row) : Row w' g t C := (hb.block g h.inside hg).trans h
end
theorem below_drawnN {B : Nat} {a w : World} (h : Below B a w) (n : Nat) : Below B a (w.drewN n) := ⟨h.os, h.tape, h.output, h.size, h.block⟩
theorem below_alloc (w : World) (o : Obj) : Below w.heap.size w (w.alloc o) := (Below.refl _ w).alloc (Nat.le_refl _) _
/-- A quiet callee behind an earlier quiet region. -/
theorem quiet_more {P : Program} {f : FuncId} {args : Array Value} {w : World} {a n : Nat} {v : Value} (c : ∀ W : World, Calls P f args W fun e w' => e = .returned v ∧ w' = W) :
    Calls P f args (w.drewN (a + n)) fun e w' => e = .returned v ∧ ∃ m, w' = w.drewN (a + m) := (c _).mono fun _ _ h => ⟨h.1, n, h.2⟩
theorem quiet_moreN {P : Program} {f : FuncId} {args : Array Value} {w : World} {a n : Nat} {v : Value} (c : ∀ W : World, Calls P f args W fun e w' => e = .returned v ∧ ∃ m, w' = W.drewN m) :
    Calls P f args (w.drewN (a + n)) fun e w' => e = .returned v ∧ ∃ m, w' = w.drewN (a + m) := (c _).mono fun _ _ h => ⟨h.1, by obtain ⟨m, hm⟩ := h.2; exact ⟨n + m, by rw [hm, World.drewN_drewN, Nat.add_assoc]⟩⟩

theorem grown_of_below {a w : World} {B : Nat} (h : Below B a w) (hB : a.heap.size ≤ B) : a.grownBy w none := ⟨h.os, h.tape, h.output, h.size, fun i hi _ => h.block i (by omega)⟩
theorem own_less {w : World} {B B' : Nat} {e : TypeId} {k n : Nat} {v : Value} {xs : List Value} (h : w.ownsRow B e k v n xs) (hB : B' ≤ B) : w.ownsRow B' e k v n xs := by
  refine ⟨h.1, ?_⟩
  rcases h.2 with h0 | ⟨g, cap, cur, hv, hbase, hr⟩
  · exact .inl h0
  · exact .inr ⟨g, cap, cur, hv, Nat.le_trans hB hbase, hr⟩
theorem own_base {w X Y : World} {e : TypeId} {k n : Nat} {v : Value} {xs : List Value} (h : Y.ownsRow X.heap.size e k v n xs) (hb : Below w.heap.size w X) : Y.ownsRow w.heap.size e k v n xs := own_less h hb.size
theorem own_over {X Y : World} {B : Nat} {e : TypeId} {k n : Nat} {v : Value} {xs : List Value} (h : X.ownsRow B e k v n xs) (hb : Below X.heap.size X Y) : Y.ownsRow B e k v n xs := h.kept (grown_of_below hb (Nat.le_refl _)) (Classical.em _)
theorem below_step {w X Y : World} (h : Below w.heap.size w X) (b : Below X.heap.size X Y) : Below w.heap.size w Y := h.trans (b.mono h.size)
theorem keep_alloc {w X : World} (h : Below w.heap.size w X) (o : Obj) : Below w.heap.size w (X.alloc o) := h.alloc h.size o
theorem keep_grown {w X Y : World} {k n : Nat} {v : Value} {xs : List Value} {e : TypeId} (h : Below w.heap.size w X) (hg : X.grownBy Y v.ownBlock) (ho : X.ownsRow w.heap.size e k v n xs) : Below w.heap.size w Y := h.grown hg h.size (fun j ej => (ho.lt j ej).1)
theorem own_some {w : World} {B n : Nat} {e : TypeId} {v : Value} {xs : List Value} (h : w.ownsRow B e 1 v n xs) (hn : 0 < n) : ∃ g cap, v = .slice (some ⟨g, 0, none⟩) n cap ∧ g < w.heap.size ∧ B ≤ g := by
  rcases h.2 with ⟨_, h0⟩ | ⟨g, cap, cur, hv, hB, hg, _⟩
  · omega
  · refine ⟨g, cap, hv, ?_, hB⟩
    rcases Nat.lt_or_ge g w.heap.size with k | k
    · exact k
    · rw [Array.getElem?_eq_none k] at hg; cases hg


/-- Two, three cells of a block. -/
theorem Row.two {w : World} {g : Nat} {t : TypeId} {a b : Value} (h : Row w g t #[a, b]) : w.cell? ⟨g, 0, none⟩ = some a ∧ w.cell? ⟨g, 1, none⟩ = some b ∧ w.frozen? ⟨g, 0, none⟩ = false ∧ w.frozen? ⟨g, 1, none⟩ = false := ⟨h.at rfl, h.at rfl, h.free 0, h.free 1⟩
theorem Row.three {w : World} {g : Nat} {t : TypeId} {a b c : Value} (h : Row w g t #[a, b, c]) : w.cell? ⟨g, 0, none⟩ = some a ∧ w.cell? ⟨g, 1, none⟩ = some b ∧ w.cell? ⟨g, 2, none⟩ = some c ∧ w.frozen? ⟨g, 0, none⟩ = false ∧ w.frozen? ⟨g, 1, none⟩ = false ∧ w.frozen? ⟨g, 2, none⟩ = false := ⟨h.at rfl, h.at rfl, h.at rfl, h.free 0, h.free 1, h.free 2⟩
theorem Row.put0 {w : World} {g : Nat} {t : TypeId} {a b : Value} (h : Row w g t #[a, b]) (v : Value) : Row (w.setCell ⟨g, 0, none⟩ v) g t #[v, b] := h.stored 0 v
theorem Row.put1 {w : World} {g : Nat} {t : TypeId} {a b : Value} (h : Row w g t #[a, b]) (v : Value) : Row (w.setCell ⟨g, 1, none⟩ v) g t #[a, v] := h.stored 1 v
theorem Row.step {w W : World} {g : Nat} {t : TypeId} {C : Array Value} (h : Row w g t C) (b : Below w.heap.size w W) : Row W g t C := Row.below h b h.inside
theorem bnot {b : Bool} (h : ¬ b = true) : b = false := by simpa using h
/-- A slice of integers that the caller holds. -/
def Nums (w : World) (B : Nat) (A : Option Addr) (l : List Int) : Prop :=
  l = [] ∨ ∃ b o : Nat, A = some ⟨b, o, none⟩ ∧ b < B ∧ ∀ (i : Nat) (r : Int), l[i]? = some r → w.cell? ⟨b, o + i, none⟩ = some (.int .i64 r)
theorem Nums.at {w : World} {B : Nat} {A : Option Addr} {l : List Int} (h : Nums w B A l) {i : Nat} {r : Int} (hr : l[i]? = some r) : ∃ b o : Nat, A = some ⟨b, o, none⟩ ∧ b < B ∧ w.cell? ⟨b, o + i, none⟩ = some (.int .i64 r) := by
  rcases h with rfl | ⟨b, o, hA, hB, hc⟩
  · simp at hr
  · exact ⟨b, o, hA, hB, hc i r hr⟩
theorem Nums.below {w W : World} {B : Nat} {A : Option Addr} {l : List Int} (h : Nums w B A l) (hb : Below B w W) : Nums W B A l := by
  rcases h with h | ⟨b, o, hA, hB, hc⟩
  · exact .inl h
  · exact .inr ⟨b, o, hA, hB, fun i r hr => by rw [hb.cell (p := ⟨b, o + i, none⟩) hB]; exact hc i r hr⟩
theorem Nums.more {w : World} {B B' : Nat} {A : Option Addr} {l : List Int} (h : Nums w B A l) (hB' : B ≤ B') : Nums w B' A l := by
  rcases h with h | ⟨b, o, hA, hB, hc⟩
  · exact .inl h
  · exact .inr ⟨b, o, hA, Nat.lt_of_lt_of_le hB hB', hc⟩
theorem Nums.deep {w W : World} {A : Option Addr} {l : List Int} (h : Nums w w.heap.size A l) (hb : Below w.heap.size w W) : Nums W W.heap.size A l := (h.below hb).more hb.size
/-- Elements of k cells each that the caller holds, one after another. -/
def Cells (w : World) (B : Nat) (A : Option Addr) (k : Nat) (ls : List (Array Value)) : Prop :=
  ls = [] ∨ ∃ b o : Nat, A = some ⟨b, o, none⟩ ∧ b < B ∧ ∀ (i : Nat) (C : Array Value), ls[i]? = some C → ∀ (j : Nat) (v : Value), C[j]? = some v → w.cell? ⟨b, o + i * k + j, none⟩ = some v
theorem Cells.below {w W : World} {B k : Nat} {A : Option Addr} {ls : List (Array Value)} (h : Cells w B A k ls) (hb : Below B w W) : Cells W B A k ls := by
  rcases h with h | ⟨b, o, hA, hB, hc⟩
  · exact .inl h
  · exact .inr ⟨b, o, hA, hB, fun i C hC j v hv => by rw [hb.cell (p := ⟨b, o + i * k + j, none⟩) hB]; exact hc i C hC j v hv⟩
theorem Cells.more {w : World} {B B' k : Nat} {A : Option Addr} {ls : List (Array Value)} (h : Cells w B A k ls) (hB' : B ≤ B') : Cells w B' A k ls := by
  rcases h with h | ⟨b, o, hA, hB, hc⟩
  · exact .inl h
  · exact .inr ⟨b, o, hA, Nat.lt_of_lt_of_le hB hB', hc⟩
theorem Cells.deep {w W : World} {k : Nat} {A : Option Addr} {ls : List (Array Value)} (h : Cells w w.heap.size A k ls) (hb : Below w.heap.size w W) : Cells W W.heap.size A k ls := (h.below hb).more hb.size
theorem Cells.get {w : World} {B k : Nat} {A : Option Addr} {ls : List (Array Value)} (h : Cells w B A k ls) {i : Nat} {C : Array Value} (hC : ls[i]? = some C) :
    ∃ b o : Nat, A = some ⟨b, o, none⟩ ∧ b < B ∧ ∀ (j : Nat) (v : Value), C[j]? = some v → w.cell? ⟨b, o + i * k + j, none⟩ = some v := by
  rcases h with rfl | ⟨b, o, hA, hB, hc⟩
  · simp at hC
  · exact ⟨b, o, hA, hB, hc i C hC⟩
theorem Cells.sub {w : World} {B k : Nat} {A : Option Addr} {ls : List (Array Value)} (h : Cells w B A k ls) (m : Nat) : Cells w B A k (ls.take m) := by
  rcases h with rfl | ⟨b, o, hA, hB, hc⟩
  · exact .inl (by simp)
  · exact .inr ⟨b, o, hA, hB, fun i C hC => hc i C (by
      rw [List.getElem?_take] at hC
      split at hC
      · exact hC
      · cases hC)⟩
def fctC (f : Fct) : Array Value := #[.int .i64 f.thing, .int .i64 f.says, .int .i64 f.sf, .int .i64 f.st, .int .i64 f.kf, .int .i64 f.kt]
def rplC (r : Rpl) : Array Value := #[.int .i64 r.clause, .int .i64 r.pub, .int .i64 r.frm]
def fdC (f : Fd) : Array Value := #[.int .i64 f.1, .bool f.2.1, .int .i64 f.2.2.1, .int .i64 f.2.2.2]
/-- A clause's six cells. -/
def clsC (c : Cls) (n b : Value) : Array Value := #[.int .i64 c.pub, .int .i64 c.sf, .int .i64 c.st, n, b, .int .i64 c.gives]
abbrev Big : Nat := 9223372036854775807
/-- A slice of integers, as a value. -/
def IntsV (w : World) (B : Nat) (v : Value) (l : List Int) : Prop := ∃ A c, v = .slice A l.length c ∧ l.length ≤ Big ∧ Nums w B A l
theorem IntsV.deep {w W : World} {v : Value} {l : List Int} (h : IntsV w w.heap.size v l) (hb : Below w.heap.size w W) : IntsV W W.heap.size v l := by
  obtain ⟨A, c, h1, h2, h3⟩ := h
  exact ⟨A, c, h1, h2, h3.deep hb⟩
theorem IntsV.nil (w : World) (B : Nat) : IntsV w B (.slice none 0 0) [] := ⟨none, 0, rfl, by decide, .inl rfl⟩
/-- A list of clauses in memory. -/
def ClsV (w : World) (B : Nat) (v : Value) (l : List Cls) : Prop := ∃ A c, v = .slice A l.length c ∧ l.length ≤ Big ∧ (l = [] ∨ ∃ b o : Nat, A = some ⟨b, o, none⟩ ∧ b < B ∧ ∀ (i : Nat) (x : Cls), l[i]? = some x → ∃ nv bv, IntsV w B nv x.needs ∧ IntsV w B bv x.bars ∧ ∀ (j : Nat) (v : Value), (clsC x nv bv)[j]? = some v → w.cell? ⟨b, o + i * 6 + j, none⟩ = some v)
def RowsV (w : World) (B : Nat) (v : Value) (k : Nat) (ls : List (Array Value)) : Prop := ∃ A c, v = .slice A ls.length c ∧ ls.length ≤ Big ∧ Cells w B A k ls
theorem RowsV.deep {w W : World} {v : Value} {k : Nat} {l : List (Array Value)} (h : RowsV w w.heap.size v k l) (hb : Below w.heap.size w W) : RowsV W W.heap.size v k l := by
  obtain ⟨A, c, h1, h2, h3⟩ := h
  exact ⟨A, c, h1, h2, h3.deep hb⟩
theorem ClsV.deep {w W : World} {v : Value} {l : List Cls} (h : ClsV w w.heap.size v l) (hb : Below w.heap.size w W) : ClsV W W.heap.size v l := by
  obtain ⟨A, c, h1, h2, h3⟩ := h
  refine ⟨A, c, h1, h2, ?_⟩
  rcases h3 with h3 | ⟨b, o, hA, hB, hc⟩
  · exact .inl h3
  · refine .inr ⟨b, o, hA, Nat.lt_of_lt_of_le hB hb.size, fun i x hx => ?_⟩
    obtain ⟨nv, bv, k1, k2, k3⟩ := hc i x hx
    exact ⟨nv, bv, k1.deep hb, k2.deep hb, fun j v hv => by rw [hb.cell (p := ⟨b, o + i * 6 + j, none⟩) hB]; exact k3 j v hv⟩
theorem ClsV.get {w : World} {B : Nat} {A : Option Addr} {n c : Nat} {l : List Cls} (h : ClsV w B (.slice A n c) l) {i : Nat} {x : Cls} (hx : l[i]? = some x) :
    ∃ (b o : Nat) (NA BA : Option Addr) (nc bc : Nat), A = some ⟨b, o, none⟩ ∧ b < B ∧ (x.needs.length ≤ Big ∧ Nums w B NA x.needs) ∧ (x.bars.length ≤ Big ∧ Nums w B BA x.bars) ∧
      w.cell? ⟨b, o + i * 6, none⟩ = some (.int .i64 x.pub) ∧ w.cell? ⟨b, o + i * 6 + 1, none⟩ = some (.int .i64 x.sf) ∧ w.cell? ⟨b, o + i * 6 + 2, none⟩ = some (.int .i64 x.st) ∧ w.cell? ⟨b, o + i * 6 + 3, none⟩ = some (.slice NA x.needs.length nc) ∧ w.cell? ⟨b, o + i * 6 + 4, none⟩ = some (.slice BA x.bars.length bc) ∧ w.cell? ⟨b, o + i * 6 + 5, none⟩ = some (.int .i64 x.gives) := by
  obtain ⟨A', c', h1, h2, h3⟩ := h
  obtain ⟨rfl, _, _⟩ : A = A' ∧ n = l.length ∧ c = c' := by simpa using h1
  rcases h3 with rfl | ⟨b, o, hA, hB, hc⟩
  · simp at hx
  · obtain ⟨nv, bv, ⟨NA, nc, rfl, n2, n3⟩, ⟨BA, bc, rfl, b2, b3⟩, k⟩ := hc i x hx
    exact ⟨b, o, NA, BA, nc, bc, hA, hB, ⟨n2, n3⟩, ⟨b2, b3⟩, k 0 _ rfl, k 1 _ rfl, k 2 _ rfl, k 3 _ rfl, k 4 _ rfl, k 5 _ rfl⟩
/-- Three slices: the rulebook. -/
def BkV (w : World) (B : Nat) (cv rv fv : Value) (b : Bk) : Prop := ClsV w B cv b.cls ∧ RowsV w B rv 3 (b.rpl.map rplC) ∧ RowsV w B fv 6 (b.fct.map fctC)
theorem BkV.deep {w W : World} {cv rv fv : Value} {b : Bk} (h : BkV w w.heap.size cv rv fv b) (hb : Below w.heap.size w W) : BkV W W.heap.size cv rv fv b := ⟨h.1.deep hb, h.2.1.deep hb, h.2.2.deep hb⟩
theorem at_lt {α : Type} {l : List α} {i : Nat} (h : i < l.length) : ∃ x, l[i]? = some x := ⟨l[i], by simp⟩
theorem RowsV.rpl {w : World} {B : Nat} {v : Value} {l : List Rpl} (h : RowsV w B v 3 (l.map rplC)) : ∃ A c, v = .slice A l.length c ∧ l.length ≤ Big ∧ ∀ (i : Nat) (x : Rpl), l[i]? = some x → ∃ b o : Nat, A = some ⟨b, o, none⟩ ∧ b < B ∧ w.cell? ⟨b, o + i * 3, none⟩ = some (.int .i64 x.clause) ∧ w.cell? ⟨b, o + i * 3 + 1, none⟩ = some (.int .i64 x.pub) ∧ w.cell? ⟨b, o + i * 3 + 2, none⟩ = some (.int .i64 x.frm) := by
  obtain ⟨A, c, h1, h2, h3⟩ := h
  rw [List.length_map] at h1 h2
  refine ⟨A, c, h1, h2, fun i x hx => ?_⟩
  obtain ⟨b, o, hA, hB, k⟩ := h3.get (i := i) (C := rplC x) (by rw [List.getElem?_map, hx]; rfl)
  exact ⟨b, o, hA, hB, k 0 _ rfl, k 1 _ rfl, k 2 _ rfl⟩
theorem RowsV.fct {w : World} {B : Nat} {v : Value} {l : List Fct} (h : RowsV w B v 6 (l.map fctC)) : ∃ A c, v = .slice A l.length c ∧ l.length ≤ Big ∧ ∀ (i : Nat) (x : Fct), l[i]? = some x → ∃ b o : Nat, A = some ⟨b, o, none⟩ ∧ b < B ∧ w.cell? ⟨b, o + i * 6, none⟩ = some (.int .i64 x.thing) ∧ w.cell? ⟨b, o + i * 6 + 1, none⟩ = some (.int .i64 x.says) ∧ w.cell? ⟨b, o + i * 6 + 2, none⟩ = some (.int .i64 x.sf) ∧ w.cell? ⟨b, o + i * 6 + 3, none⟩ = some (.int .i64 x.st) ∧ w.cell? ⟨b, o + i * 6 + 4, none⟩ = some (.int .i64 x.kf) ∧ w.cell? ⟨b, o + i * 6 + 5, none⟩ = some (.int .i64 x.kt) := by
  obtain ⟨A, c, h1, h2, h3⟩ := h
  rw [List.length_map] at h1 h2
  refine ⟨A, c, h1, h2, fun i x hx => ?_⟩
  obtain ⟨b, o, hA, hB, k⟩ := h3.get (i := i) (C := fctC x) (by rw [List.getElem?_map, hx]; rfl)
  exact ⟨b, o, hA, hB, k 0 _ rfl, k 1 _ rfl, k 2 _ rfl, k 3 _ rfl, k 4 _ rfl, k 5 _ rfl⟩
theorem RowsV.fds {w : World} {B : Nat} {v : Value} {l : List Fd} (h : RowsV w B v 4 (l.map fdC)) : ∃ A c, v = .slice A l.length c ∧ l.length ≤ Big ∧ ∀ (i : Nat) (x : Fd), l[i]? = some x → ∃ b o : Nat, A = some ⟨b, o, none⟩ ∧ b < B ∧ w.cell? ⟨b, o + i * 4, none⟩ = some (.int .i64 x.1) ∧ w.cell? ⟨b, o + i * 4 + 1, none⟩ = some (.bool x.2.1) ∧ w.cell? ⟨b, o + i * 4 + 2, none⟩ = some (.int .i64 x.2.2.1) ∧ w.cell? ⟨b, o + i * 4 + 3, none⟩ = some (.int .i64 x.2.2.2) := by
  obtain ⟨A, c, h1, h2, h3⟩ := h
  rw [List.length_map] at h1 h2
  refine ⟨A, c, h1, h2, fun i x hx => ?_⟩
  obtain ⟨b, o, hA, hB, k⟩ := h3.get (i := i) (C := fdC x) (by rw [List.getElem?_map, hx]; rfl)
  exact ⟨b, o, hA, hB, k 0 _ rfl, k 1 _ rfl, k 2 _ rfl, k 3 _ rfl⟩
end Go.Proofs.Ytiglkecmamnphaa
