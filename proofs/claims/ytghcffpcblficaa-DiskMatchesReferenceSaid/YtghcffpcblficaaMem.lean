/- Memory: blocks that the call made, known whole; what a call of a disk turns and what it leaves; the disk in memory. -/
import Derived.Test.YtghcffpcblficaaRows
import Derived.Test.YtghcffpcblficaaDk
import Derived.WalkKit
import Derived.WalkSpells
import Derived.WalkLawsBesides
import Derived.Outline
import Derived.Lib.Hide
import Derived.IntWalk
import Derived.BigQuiet
import Derived.Deep.QuietTactic
import Derived.RegionTactic
import Derived.RangeFuncRecord
import Derived.Below
import Derived.Laws.Rows
import Derived.Laws.CopyOwn
import Derived.Laws.MakeOwn
import Derived.OwnWalk
import Derived.StillTailTactics
import Derived.Deep.RegionHeld3
import Derived.BigRegion
import Derived.Laws.OwnMore
import Derived.Lib.UnsafeStr
import Derived.Deep.AppendLies
import Derived.Deep.Cut
import Derived.Deep.DeepCutAuto
import Derived.Deep.CutBlock
import Derived.Deep.LoopGhost
import Derived.Lib.QuietBelow
import Derived.RangeFuncBox
import Derived.Handy
import Derived.Deep.RegionLaw
import Derived.Lib.SliceRun
import Derived.Laws.BytesArg
namespace Go.Proofs.Ytghcffpcblficaa
open Go.RowKit

def Row (w : World) (g : Nat) (t : TypeId) (C : Array Value) : Prop := w.heap[g]? = some (.cells C t (0, 0))
section
variable {w w' : World} {g : Nat} {t : TypeId} {C : Array Value}
theorem Row.inside (h : Row w g t C) : g < w.heap.size := by
  rcases Nat.lt_or_ge g w.heap.size with k | k
  · exact k
  · rw [Row, Array.getElem?_eq_none k] at h; cases h
theorem Row.at (h : Row w g t C) {i : Nat} {v : Value} (hv : C[i]? = some v) : w.cell? ⟨g, i, none⟩ = some v := by
  rw [cell_of_row w g i C t (0, 0) h, hv]
theorem Row.free (h : Row w g t C) (i : Nat) : w.frozen? ⟨g, i, none⟩ = false := frozen_of_row w g i C t h
theorem Row.made (w : World) (t : TypeId) (C : Array Value) : Row (w.alloc (.cells C t)) w.heap.size t C := heap_alloc_new w _
theorem Row.made_at (w : World) (t : TypeId) (C : Array Value) {g : Nat} (h : w.heap.size = g) : Row (w.alloc (.cells C t)) g t C := by subst h; exact heap_alloc_new w _
theorem Row.later (h : Row w g t C) (o : Obj) : Row (w.alloc o) g t C := (Below.heap_alloc w o g h.inside).trans h
theorem Row.drawn (h : Row w g t C) : Row w.drew g t C := h
theorem Row.drawnN (h : Row w g t C) (n : Nat) : Row (w.drewN n) g t C := h
theorem Row.stored (h : Row w g t C) (i : Nat) (v : Value) : Row (w.setCell ⟨g, i, none⟩ v) g t (C.setIfInBounds i v) := heap_setCell_same w g i C t v h
theorem Row.aside (h : Row w g t C) {p : Addr} (hp : p.block ≠ g) (v : Value) : Row (w.setCell p v) g t C := (heap_setCell_other w p g v (fun e => hp e.symm)).trans h
theorem Row.below {B : Nat} (h : Row w g t C) (hb : Below B w w') (hg : g < B) : Row w' g t C := (hb.block g hg).trans h
theorem Row.grown {row : Option Nat} (h : Row w g t C) (hb : w.grownBy w' row) (hg : some g ≠ row) : Row w' g t C := (hb.block g h.inside hg).trans h
end
theorem below_drawnN {B : Nat} {a w : World} (h : Below B a w) (n : Nat) : Below B a (w.drewN n) := ⟨h.os, h.tape, h.output, h.size, h.block⟩
theorem below_alloc (w : World) (o : Obj) : Below w.heap.size w (w.alloc o) := (Below.refl _ w).alloc (Nat.le_refl _) _
/-- A quiet callee behind an earlier quiet region. -/
theorem quiet_more {P : Program} {f : FuncId} {args : Array Value} {w : World} {a n : Nat} {v : Value} (c : ∀ W : World, Calls P f args W fun e w' => e = .returned v ∧ w' = W) :
    Calls P f args (w.drewN (a + n)) fun e w' => e = .returned v ∧ ∃ m, w' = w.drewN (a + m) := (c _).mono fun _ _ h => ⟨h.1, n, h.2⟩
theorem quiet_moreN {P : Program} {f : FuncId} {args : Array Value} {w : World} {a n : Nat} {v : Value} (c : ∀ W : World, Calls P f args W fun e w' => e = .returned v ∧ ∃ m, w' = W.drewN m) :
    Calls P f args (w.drewN (a + n)) fun e w' => e = .returned v ∧ ∃ m, w' = w.drewN (a + m) := (c _).mono fun _ _ h => ⟨h.1, by obtain ⟨m, hm⟩ := h.2; exact ⟨n + m, by rw [hm, World.drewN_drewN, Nat.add_assoc]⟩⟩

theorem grown_of_below {a w : World} {B : Nat} (h : Below B a w) (hB : a.heap.size ≤ B) : a.grownBy w none := ⟨h.os, h.tape, h.output, h.size, fun i hi _ => h.block i (by omega)⟩
theorem own_less {w : World} {B B' : Nat} {e : TypeId} {k n : Nat} {v : Value} {xs : List Value} (h : w.ownsRow B e k v n xs) (hB : B' ≤ B) : w.ownsRow B' e k v n xs := by
  refine ⟨h.1, ?_⟩
  rcases h.2 with h0 | ⟨g, cap, cur, hv, hbase, hr⟩
  · exact .inl h0
  · exact .inr ⟨g, cap, cur, hv, Nat.le_trans hB hbase, hr⟩
theorem own_base {w X Y : World} {e : TypeId} {k n : Nat} {v : Value} {xs : List Value} (h : Y.ownsRow X.heap.size e k v n xs) (hb : Below w.heap.size w X) : Y.ownsRow w.heap.size e k v n xs := own_less h hb.size
theorem own_over {X Y : World} {B : Nat} {e : TypeId} {k n : Nat} {v : Value} {xs : List Value} (h : X.ownsRow B e k v n xs) (hb : Below X.heap.size X Y) : Y.ownsRow B e k v n xs := h.kept (grown_of_below hb (Nat.le_refl _)) (Classical.em _)
theorem below_step {w X Y : World} (h : Below w.heap.size w X) (b : Below X.heap.size X Y) : Below w.heap.size w Y := h.trans (b.mono h.size)
theorem keep_alloc {w X : World} (h : Below w.heap.size w X) (o : Obj) : Below w.heap.size w (X.alloc o) := h.alloc h.size o
theorem keep_grown {w X Y : World} {k n : Nat} {v : Value} {xs : List Value} {e : TypeId} (h : Below w.heap.size w X) (hg : X.grownBy Y v.ownBlock) (ho : X.ownsRow w.heap.size e k v n xs) : Below w.heap.size w Y := h.grown hg h.size (fun j ej => (ho.lt j ej).1)
theorem own_some {w : World} {B n : Nat} {e : TypeId} {v : Value} {xs : List Value} (h : w.ownsRow B e 1 v n xs) (hn : 0 < n) : ∃ g cap, v = .slice (some ⟨g, 0, none⟩) n cap ∧ g < w.heap.size ∧ B ≤ g := by
  rcases h.2 with ⟨_, h0⟩ | ⟨g, cap, cur, hv, hB, hg, _⟩
  · omega
  · refine ⟨g, cap, hv, ?_, hB⟩
    rcases Nat.lt_or_ge g w.heap.size with k | k
    · exact k
    · rw [Array.getElem?_eq_none k] at hg; cases hg


/-- Two, three cells of a block. -/
theorem Row.two {w : World} {g : Nat} {t : TypeId} {a b : Value} (h : Row w g t #[a, b]) : w.cell? ⟨g, 0, none⟩ = some a ∧ w.cell? ⟨g, 1, none⟩ = some b ∧ w.frozen? ⟨g, 0, none⟩ = false ∧ w.frozen? ⟨g, 1, none⟩ = false := ⟨h.at rfl, h.at rfl, h.free 0, h.free 1⟩
theorem Row.three {w : World} {g : Nat} {t : TypeId} {a b c : Value} (h : Row w g t #[a, b, c]) : w.cell? ⟨g, 0, none⟩ = some a ∧ w.cell? ⟨g, 1, none⟩ = some b ∧ w.cell? ⟨g, 2, none⟩ = some c ∧ w.frozen? ⟨g, 0, none⟩ = false ∧ w.frozen? ⟨g, 1, none⟩ = false ∧ w.frozen? ⟨g, 2, none⟩ = false := ⟨h.at rfl, h.at rfl, h.at rfl, h.free 0, h.free 1, h.free 2⟩
theorem Row.put0 {w : World} {g : Nat} {t : TypeId} {a b : Value} (h : Row w g t #[a, b]) (v : Value) : Row (w.setCell ⟨g, 0, none⟩ v) g t #[v, b] := h.stored 0 v
theorem Row.put1 {w : World} {g : Nat} {t : TypeId} {a b : Value} (h : Row w g t #[a, b]) (v : Value) : Row (w.setCell ⟨g, 1, none⟩ v) g t #[a, v] := h.stored 1 v
theorem Row.step {w W : World} {g : Nat} {t : TypeId} {C : Array Value} (h : Row w g t C) (b : Below w.heap.size w W) : Row W g t C := Row.below h b h.inside
theorem bnot {b : Bool} (h : ¬ b = true) : b = false := by simpa using h
/-- A slice of integers that the caller holds. -/
def Nums (w : World) (B : Nat) (A : Option Addr) (l : List Int) : Prop :=
  l = [] ∨ ∃ b o : Nat, A = some ⟨b, o, none⟩ ∧ b < B ∧ ∀ (i : Nat) (r : Int), l[i]? = some r → w.cell? ⟨b, o + i, none⟩ = some (.int .i64 r)
theorem Nums.at {w : World} {B : Nat} {A : Option Addr} {l : List Int} (h : Nums w B A l) {i : Nat} {r : Int} (hr : l[i]? = some r) : ∃ b o : Nat, A = some ⟨b, o, none⟩ ∧ b < B ∧ w.cell? ⟨b, o + i, none⟩ = some (.int .i64 r) := by
  rcases h with rfl | ⟨b, o, hA, hB, hc⟩
  · simp at hr
  · exact ⟨b, o, hA, hB, hc i r hr⟩
theorem Nums.below {w W : World} {B : Nat} {A : Option Addr} {l : List Int} (h : Nums w B A l) (hb : Below B w W) : Nums W B A l := by
  rcases h with h | ⟨b, o, hA, hB, hc⟩
  · exact .inl h
  · exact .inr ⟨b, o, hA, hB, fun i r hr => by rw [hb.cell (p := ⟨b, o + i, none⟩) hB]; exact hc i r hr⟩
theorem Nums.more {w : World} {B B' : Nat} {A : Option Addr} {l : List Int} (h : Nums w B A l) (hB' : B ≤ B') : Nums w B' A l := by
  rcases h with h | ⟨b, o, hA, hB, hc⟩
  · exact .inl h
  · exact .inr ⟨b, o, hA, Nat.lt_of_lt_of_le hB hB', hc⟩
theorem Nums.deep {w W : World} {A : Option Addr} {l : List Int} (h : Nums w w.heap.size A l) (hb : Below w.heap.size w W) : Nums W W.heap.size A l := (h.below hb).more hb.size
/-- Elements of k cells each that the caller holds, one after another. -/
def Cells (w : World) (B : Nat) (A : Option Addr) (k : Nat) (ls : List (Array Value)) : Prop :=
  ls = [] ∨ ∃ b o : Nat, A = some ⟨b, o, none⟩ ∧ b < B ∧ ∀ (i : Nat) (C : Array Value), ls[i]? = some C → ∀ (j : Nat) (v : Value), C[j]? = some v → w.cell? ⟨b, o + i * k + j, none⟩ = some v
theorem Cells.below {w W : World} {B k : Nat} {A : Option Addr} {ls : List (Array Value)} (h : Cells w B A k ls) (hb : Below B w W) : Cells W B A k ls := by
  rcases h with h | ⟨b, o, hA, hB, hc⟩
  · exact .inl h
  · exact .inr ⟨b, o, hA, hB, fun i C hC j v hv => by rw [hb.cell (p := ⟨b, o + i * k + j, none⟩) hB]; exact hc i C hC j v hv⟩
theorem Cells.more {w : World} {B B' k : Nat} {A : Option Addr} {ls : List (Array Value)} (h : Cells w B A k ls) (hB' : B ≤ B') : Cells w B' A k ls := by
  rcases h with h | ⟨b, o, hA, hB, hc⟩
  · exact .inl h
  · exact .inr ⟨b, o, hA, Nat.lt_of_lt_of_le hB hB', hc⟩
theorem Cells.deep {w W : World} {k : Nat} {A : Option Addr} {ls : List (Array Value)} (h : Cells w w.heap.size A k ls) (hb : Below w.heap.size w W) : Cells W W.heap.size A k ls := (h.below hb).more hb.size
theorem Cells.get {w : World} {B k : Nat} {A : Option Addr} {ls : List (Array Value)} (h : Cells w B A k ls) {i : Nat} {C : Array Value} (hC : ls[i]? = some C) :
    ∃ b o : Nat, A = some ⟨b, o, none⟩ ∧ b < B ∧ ∀ (j : Nat) (v : Value), C[j]? = some v → w.cell? ⟨b, o + i * k + j, none⟩ = some v := by
  rcases h with rfl | ⟨b, o, hA, hB, hc⟩
  · simp at hC
  · exact ⟨b, o, hA, hB, hc i C hC⟩
theorem Cells.sub {w : World} {B k : Nat} {A : Option Addr} {ls : List (Array Value)} (h : Cells w B A k ls) (m : Nat) : Cells w B A k (ls.take m) := by
  rcases h with rfl | ⟨b, o, hA, hB, hc⟩
  · exact .inl (by simp)
  · exact .inr ⟨b, o, hA, hB, fun i C hC => hc i C (by
      rw [List.getElem?_take] at hC
      split at hC
      · exact hC
      · cases hC)⟩

abbrev Big : Nat := 9223372036854775807
theorem at_lt {α : Type} {l : List α} {i : Nat} (h : i < l.length) : ∃ x, l[i]? = some x := ⟨l[i], by simp⟩
/-- Outside of S the world is as it was. -/
structure Kept (S : Nat → Prop) (w w' : World) : Prop where
  os : w'.os = w.os
  tape : w'.tape = w.tape
  output : w'.output = w.output
  size : w.heap.size ≤ w'.heap.size
  block : ∀ k, k < w.heap.size → ¬ S k → w'.heap[k]? = w.heap[k]?
theorem Kept.refl (S : Nat → Prop) (w : World) : Kept S w w := ⟨rfl, rfl, rfl, Nat.le_refl _, fun _ _ _ => rfl⟩
theorem Kept.trans {S T : Nat → Prop} {a b c : World} (h : Kept S a b) (k : Kept T b c) (hT : ∀ i, T i → S i ∨ a.heap.size ≤ i) : Kept S a c :=
  ⟨k.os.trans h.os, k.tape.trans h.tape, k.output.trans h.output, Nat.le_trans h.size k.size, fun i hi hS => (k.block i (Nat.lt_of_lt_of_le hi h.size) (fun ht => by rcases hT i ht with h1 | h1; exact hS h1; omega)).trans (h.block i hi hS)⟩
theorem Kept.more {S T : Nat → Prop} {a b : World} (h : Kept S a b) (hT : ∀ i, S i → T i ∨ a.heap.size ≤ i) : Kept T a b :=
  ⟨h.os, h.tape, h.output, h.size, fun i hi hS => h.block i hi (fun hs => by rcases hT i hs with h1 | h1; exact hS h1; omega)⟩
theorem Kept.of_below {S : Nat → Prop} {a b : World} (h : Below a.heap.size a b) : Kept S a b := ⟨h.os, h.tape, h.output, h.size, fun i hi _ => h.block i hi⟩
theorem Kept.alloc {S : Nat → Prop} {a b : World} (h : Kept S a b) (o : Obj) : Kept S a (b.alloc o) := h.trans (T := fun _ => False) (.of_below (below_alloc _ _)) (fun _ h => h.elim)
theorem Kept.drew {S : Nat → Prop} {a b : World} (h : Kept S a b) : Kept S a b.drew := ⟨h.os, h.tape, h.output, h.size, h.block⟩
theorem Kept.drewN {S : Nat → Prop} {a b : World} (h : Kept S a b) (n : Nat) : Kept S a (b.drewN n) := ⟨h.os, h.tape, h.output, h.size, h.block⟩
theorem Kept.setCell {S : Nat → Prop} {a b : World} (h : Kept S a b) {p : Addr} (hp : S p.block ∨ a.heap.size ≤ p.block) (u : Value) : Kept S a (b.setCell p u) :=
  h.trans (T := fun k => k = p.block) ⟨rfl, rfl, rfl, by simp [World.setCell], fun k _ hk => Below.heap_setCell _ _ _ _ hk⟩ (fun i hi => by subst hi; exact hp)
theorem Kept.setRow {S : Nat → Prop} {a b : World} (h : Kept S a b) {g : Nat} (hp : S g ∨ a.heap.size ≤ g) (D : Array Value) : Kept S a (b.setRow g D) :=
  h.trans (T := fun k => k = g) ⟨rfl, rfl, rfl, by simp [World.setRow], fun k _ hk => setRow_other _ _ _ _ hk⟩ (fun i hi => by subst hi; exact hp)
theorem Kept.grown {S : Nat → Prop} {a b c : World} {row : Option Nat} (h : Kept S a b) (hg : b.grownBy c row) (hp : ∀ k, row = some k → S k ∨ a.heap.size ≤ k) : Kept S a c :=
  h.trans (T := fun k => row = some k) ⟨hg.os, hg.tape, hg.output, hg.size, fun k hk hr => hg.block k hk (fun e => hr e.symm)⟩ hp
theorem Kept.below {S : Nat → Prop} {B : Nat} {w0 w w' : World} (hb : Below B w0 w) (h : Kept S w w') (hS : ∀ k, S k → B ≤ k) (hB : B ≤ w.heap.size) : Below B w0 w' :=
  hb.trans ⟨h.os, h.tape, h.output, h.size, fun k hk => h.block k (Nat.lt_of_lt_of_le hk hB) (fun hs => Nat.lt_irrefl _ (Nat.lt_of_lt_of_le hk (hS k hs)))⟩
theorem Row.kept {S : Nat → Prop} {w w' : World} {g : Nat} {t : TypeId} {C : Array Value} (h : Row w g t C) (k : Kept S w w') (hg : ¬ S g) : Row w' g t C := (k.block g h.inside hg).trans h
theorem own_kept {S : Nat → Prop} {w w' : World} {B : Nat} {e : TypeId} {k n : Nat} {v : Value} {xs : List Value} (h : w.ownsRow B e k v n xs) (hk : Kept S w w') (hv : ∀ j, v.ownBlock = some j → ¬ S j) : w'.ownsRow B e k v n xs := by
  refine ⟨h.1, ?_⟩
  rcases h.2 with h0 | ⟨g, cap, cur, rfl, hB, hg, r⟩
  · exact .inl h0
  · exact .inr ⟨g, cap, cur, rfl, hB, (hk.block g (Array.getElem?_eq_some_iff.1 hg).1 (hv g rfl)).trans hg, r⟩
/-- Different element types: different blocks. -/
theorem Row.ne {w : World} {g g' : Nat} {t t' : TypeId} {C C' : Array Value} (h : Row w g t C) (h' : Row w g' t' C') (ht : t ≠ t') : g ≠ g' := by
  rintro rfl
  rw [Row] at h h'
  rw [h] at h'
  cases h'
  exact ht rfl
theorem own_ne {w : World} {g : Nat} {t e : TypeId} {C : Array Value} {B k n : Nat} {v : Value} {xs : List Value} (h : Row w g t C) (ho : w.ownsRow B e k v n xs) (ht : t ≠ e) : v.ownBlock ≠ some g := by
  intro hv
  rcases ho.2 with ⟨rfl, _⟩ | ⟨g', cap, cur, rfl, _, hg, _⟩
  · cases hv
  · obtain rfl : g' = g := by simpa [Value.ownBlock] using hv
    rw [Row] at h
    rw [h] at hg
    cases hg
    exact ht rfl
def flW (ps : List (Nat × ByteArray)) : List Value := ps.flatMap fun p => [.int .i64 p.1, .string p.2]
theorem flW_len (ps : List (Nat × ByteArray)) : (flW ps).length = ps.length * 2 := by
  induction ps with
  | nil => rfl
  | cons p ps ih => simp only [flW, List.flatMap_cons, List.length_append, List.length_cons, List.length_nil] at ih ⊢; omega
theorem flW_snoc (ps : List (Nat × ByteArray)) (p : Nat × ByteArray) : flW (ps ++ [p]) = flW ps ++ [.int .i64 p.1, .string p.2] := by simp [flW]
theorem flW_at {ps : List (Nat × ByteArray)} {i : Nat} {p : Nat × ByteArray} (h : ps[i]? = some p) : (flW ps)[i * 2]? = some (.int .i64 p.1) ∧ (flW ps)[i * 2 + 1]? = some (.string p.2) := by
  induction ps generalizing i with
  | nil => simp at h
  | cons q ps ih =>
    cases i with
    | zero => simp only [List.getElem?_cons_zero, Option.some.injEq] at h; subst h; exact ⟨rfl, rfl⟩
    | succ i =>
      simp only [List.getElem?_cons_succ] at h
      have := ih h
      rw [show (i + 1) * 2 = i * 2 + 1 + 1 by omega, show i * 2 + 1 + 1 + 1 = (i * 2 + 1) + 1 + 1 by omega]
      exact this
/-- A disk in memory: its box, its two contents, its pending writes. -/
structure Dh where
  g : Nat
  a : Nat
  b : Nat
  pv : Value
def Dh.has (h : Dh) (k : Nat) : Prop := k = h.g ∨ k = h.a ∨ k = h.b ∨ h.pv.ownBlock = some k
def boxC (h : Dh) (n : Nat) (lost : Bool) (left : Nat) : Array Value := #[.bool lost, .int .i64 left, .slice (some ⟨h.a, 0, none⟩) n n, .slice (some ⟨h.b, 0, none⟩) n n, h.pv]
structure DiskM (W : World) (B : Nat) (h : Dh) (d : Dk) : Prop where
  r : Row W h.g 66 (boxC h d.dur.length d.lost d.left)
  a : Row W h.a 5 (Lib.byteCells d.dur).toArray
  b : Row W h.b 5 (Lib.byteCells d.vis).toArray
  p : W.ownsRow B 71 2 h.pv d.pend.length (flW d.pend)
  ab : h.a ≠ h.b
  Bg : B ≤ h.g
  Ba : B ≤ h.a
  Bb : B ≤ h.b
  ok : d.Ok
section
variable {W Y : World} {B : Nat} {h : Dh} {d : Dk}
theorem DiskM.ga (m : DiskM W B h d) : h.g ≠ h.a := m.r.ne m.a (by decide)
theorem DiskM.gb (m : DiskM W B h d) : h.g ≠ h.b := m.r.ne m.b (by decide)
theorem DiskM.pg (m : DiskM W B h d) : h.pv.ownBlock ≠ some h.g := own_ne m.r m.p (by decide)
theorem DiskM.pa (m : DiskM W B h d) : h.pv.ownBlock ≠ some h.a := own_ne m.a m.p (by decide)
theorem DiskM.pb (m : DiskM W B h d) : h.pv.ownBlock ≠ some h.b := own_ne m.b m.p (by decide)
theorem DiskM.inside (m : DiskM W B h d) {k : Nat} (hk : h.has k) : k < W.heap.size := by
  rcases hk with rfl | rfl | rfl | hk
  · exact m.r.inside
  · exact m.a.inside
  · exact m.b.inside
  · exact (m.p.lt k hk).2
theorem DiskM.from (m : DiskM W B h d) {k : Nat} (hk : h.has k) : B ≤ k := by
  rcases hk with rfl | rfl | rfl | hk
  · exact m.Bg
  · exact m.Ba
  · exact m.Bb
  · exact (m.p.lt k hk).1
theorem DiskM.kept {S : Nat → Prop} (m : DiskM W B h d) (k : Kept S W Y) (hS : ∀ i, h.has i → ¬ S i) : DiskM Y B h d :=
  ⟨m.r.kept k (hS _ (.inl rfl)), m.a.kept k (hS _ (.inr (.inl rfl))), m.b.kept k (hS _ (.inr (.inr (.inl rfl)))), own_kept m.p k (fun j hj => hS j (.inr (.inr (.inr hj)))), m.ab, m.Bg, m.Ba, m.Bb, m.ok⟩
theorem DiskM.step (m : DiskM W B h d) (b : Below W.heap.size W Y) : DiskM Y B h d := m.kept (S := fun _ => False) (.of_below b) (fun _ _ h => h)
theorem DiskM.less {B' : Nat} (m : DiskM W B h d) (hB : B' ≤ B) : DiskM W B' h d := ⟨m.r, m.a, m.b, own_less m.p hB, m.ab, Nat.le_trans hB m.Bg, Nat.le_trans hB m.Ba, Nat.le_trans hB m.Bb, m.ok⟩
end
/-- Behind a call that may turn the disk. -/
def Turned (w w' : World) (B : Nat) (h : Dh) (d : Dk) : Prop := ∃ pv, DiskM w' B { h with pv := pv } d ∧ Kept h.has w w' ∧ ∀ k, pv.ownBlock = some k → h.pv.ownBlock = some k ∨ w.heap.size ≤ k
theorem Turned.has {w w' : World} {B : Nat} {h : Dh} {pv : Value} (hp : ∀ k, pv.ownBlock = some k → h.pv.ownBlock = some k ∨ w.heap.size ≤ k) {k : Nat} (hk : Dh.has { h with pv := pv } k) : h.has k ∨ w.heap.size ≤ k := by
  rcases hk with h1 | h1 | h1 | h1
  · exact .inl (.inl h1)
  · exact .inl (.inr (.inl h1))
  · exact .inl (.inr (.inr (.inl h1)))
  · rcases hp k h1 with h2 | h2
    · exact .inl (.inr (.inr (.inr h2)))
    · exact .inr h2
theorem Turned.still {w : World} {B : Nat} {h : Dh} {d : Dk} (m : DiskM w B h d) : Turned w w B h d := ⟨h.pv, m, .refl _ _, fun _ hk => .inl hk⟩
theorem Turned.trans {a b c : World} {B : Nat} {h : Dh} {pv : Value} {d' : Dk} (k : Kept h.has a b) (hp : ∀ k, pv.ownBlock = some k → h.pv.ownBlock = some k ∨ a.heap.size ≤ k) (t : Turned b c B { h with pv := pv } d') : Turned a c B h d' := by
  obtain ⟨pv', m, k', hp'⟩ := t
  refine ⟨pv', m, k.trans k' (fun i hi => Turned.has (w' := a) (B := B) hp hi), fun i hi => ?_⟩
  rcases hp' i hi with h1 | h1
  · exact hp i h1
  · exact .inr (Nat.le_trans k.size h1)
end Go.Proofs.Ytghcffpcblficaa
