/- follow: the first chain, bound by bound. -/
import Derived.Test.YtkeimfkaoianmaaBck
import Derived.Maps.OwnIn
import Derived.Sort.CutIn
namespace Go.Proofs.Ytkeimfkaoianmaa
open Go.RowKit Go.Shelf

def natV (l : List Nat) : List Value := l.map fun (i : Nat) => Value.int .i64 (i : Int)
theorem natV_app (l m : List Nat) : natV (l ++ m) = natV l ++ natV m := List.map_append
/-- The state of follow when k rounds are over: x as it stands, the chain so far. -/
structure Fo (w : World) (bs : List Bn) (n L c K : Nat) (A : Option Addr) (t : Int) (R : List Nat) (k : Nat) (X : World) (f m : Int) (v : Value) (l : List Nat) : Prop where
  below : Below w.heap.size w X
  size : w.heap.size + 5 ≤ X.heap.size
  b : Row X w.heap.size 28 #[.int .i64 (n : Int), .slice A L c]
  x : Row X (w.heap.size + 1) 30 #[.int .i64 f, .int .i64 t, .int .i64 m]
  lb : Row X (w.heap.size + 1 + 1 + 1) 22 #[v]
  own : X.ownsRow w.heap.size 3 1 v k (natV l)
  nn : v ≠ .slice none 0 0
  fst : Fst bs (K - k) f t m
  sm : Sm (K - k) m
  eq : l ++ folL bs (K - k) f t m = R
theorem own_row {X : World} {base g k : Nat} {t e : TypeId} {v : Value} {xs : List Value} {C : Array Value} (h : X.ownsRow base e 1 v k xs) (hr : Row X g t C) (hne : t ≠ e) : some g ≠ v.ownBlock := by
  intro e'
  rcases h.2 with ⟨rfl, _⟩ | ⟨g', cap, cur, rfl, _, hg, _⟩
  · simp [Value.ownBlock] at e'
  · have e2 : g = g' := by simpa [Value.ownBlock] using e'
    subst e2
    rw [show X.heap[g]? = _ from hr] at hg
    injection hg with hg
    injection hg with _ h2 _
    exact hne h2
theorem own_cell {X : World} {base l k : Nat} {e : TypeId} {v : Value} {xs : List Value} {o : Obj} (h : X.ownsRow base e 1 v k xs) (hl : X.heap[l]? = some o) (hc : o.isCells = false) : some l ≠ v.ownBlock := by
  intro e'
  rcases h.2 with ⟨rfl, _⟩ | ⟨g', cap, cur, rfl, _, hg, _⟩
  · simp [Value.ownBlock] at e'
  · have e2 : l = g' := by simpa [Value.ownBlock] using e'
    subst e2
    rw [hl] at hg
    cases hg; cases hc
theorem Quiet1.own {B base k : Nat} {X Y : World} {e : TypeId} {v : Value} {xs : List Value} (q : Quiet1 B X Y) (h : X.ownsRow base e 1 v k xs) : Y.ownsRow base e 1 v k xs := by
  obtain ⟨row, hg, hq⟩ := q
  refine h.kept hg ?_
  by_cases e0 : v.ownBlock = none
  · exact .inl e0
  · refine .inr (fun e1 => ?_)
    cases hr : row with
    | none => exact e0 (e1.trans hr)
    | some r =>
      obtain ⟨_, o, ho, hc⟩ := hq r hr
      exact own_cell h ho hc (by rw [e1, hr])
theorem Fo.quiet {w : World} {bs : List Bn} {n L c K k B : Nat} {A : Option Addr} {t f m : Int} {R l : List Nat} {X Y : World} {v : Value} (h : Fo w bs n L c K A t R k X f m v l) (q : Quiet1 B X Y) (hB : w.heap.size ≤ B) : Fo w bs n L c K A t R k Y f m v l :=
  ⟨q.below h.below hB (by have := h.size; omega), Nat.le_trans h.size q.size, q.row h.b, q.row h.x, q.row h.lb, q.own h.own, h.nn, h.fst, h.sm, h.eq⟩
theorem Fo.step {w : World} {bs : List Bn} {n L c K k : Nat} {A : Option Addr} {t f m : Int} {R l : List Nat} {X Y : World} {v : Value} (h : Fo w bs n L c K A t R k X f m v l) (b : Below X.heap.size X Y) : Fo w bs n L c K A t R k Y f m v l :=
  h.quiet (.of_none (grown_of_below b (Nat.le_refl _))) (Nat.le_refl _)

/-- What a round does to memory, up to the store of the chain. -/
theorem Fo.put {w : World} {bs : List Bn} {n L c K k i : Nat} {A : Option Addr} {t f m : Int} {R l : List Nat} {X w5 : World} {v v' : Value} (h : Fo w bs n L c K A t R k X f m v l)
    (hg : (X.alloc (.cells #[.int .i64 (i : Int)] 3)).grownBy w5 v.ownBlock) (ho : w5.ownsRow w.heap.size 3 1 v' (k + 1) (natV l ++ [.int .i64 (i : Int)])) :
    ∀ Y, Y = w5.setCell ⟨w.heap.size + 1 + 1 + 1, 0, none⟩ v' →
    (Row w5 (w.heap.size + 1 + 1 + 1) 22 #[v]) ∧ Below w.heap.size w Y ∧ X.heap.size ≤ Y.heap.size ∧ Row Y w.heap.size 28 #[.int .i64 (n : Int), .slice A L c] ∧ Row Y (w.heap.size + 1) 30 #[.int .i64 f, .int .i64 t, .int .i64 m] ∧
      Row Y (w.heap.size + 1 + 1 + 1) 22 #[v'] ∧ Y.ownsRow w.heap.size 3 1 v' (k + 1) (natV (l ++ [i])) ∧ (∀ j t' C, Row X j t' C → t' ≠ 3 → j ≠ w.heap.size + 1 + 1 + 1 → Row Y j t' C) ∧ (∀ (j : Nat) (o : Obj), X.heap[j]? = some o → o.isCells = false → Y.heap[j]? = some o) ∧ (∀ j, j < w.heap.size → Y.heap[j]? = X.heap[j]?) := by
  rintro Y rfl
  have hs := h.size
  have hlt := fun k hk => (h.own.lt k hk).1
  have keep : ∀ j t' C, Row X j t' C → t' ≠ 3 → Row w5 j t' C := fun j t' C hr hne => (hr.later _).grown hg (own_row h.own hr hne)
  have lb5 := keep _ _ _ h.lb (by decide)
  have keep2 : ∀ j t' C, Row X j t' C → t' ≠ 3 → j ≠ w.heap.size + 1 + 1 + 1 → Row (w5.setCell ⟨w.heap.size + 1 + 1 + 1, 0, none⟩ v') j t' C := fun j t' C hr hne hj => (keep j t' C hr hne).aside (p := ⟨w.heap.size + 1 + 1 + 1, 0, none⟩) (fun e => hj (by have e' : w.heap.size + 1 + 1 + 1 = j := e; omega)) _
  refine ⟨lb5, ?_, ?_, keep2 _ _ _ h.b (by decide) (by omega), keep2 _ _ _ h.x (by decide) (by omega), lb5.stored 0 _, ?_, keep2, fun j o hj hc => ?_, fun j hj => ?_⟩
  · exact ((h.below.alloc (by omega) _).grown hg (by simp; omega) hlt).setCell (p := ⟨w.heap.size + 1 + 1 + 1, 0, none⟩) (by show w.heap.size ≤ w.heap.size + 1 + 1 + 1; omega) _
  · have := hg.size; simp at this; show X.heap.size ≤ (w5.setCell _ _).heap.size; simp; omega
  · rw [natV_app]
    exact ho.kept (grownBy_setCell' w5 (w.heap.size + 1 + 1 + 1) v') (.inr (fun e => own_row ho lb5 (by decide) e.symm))
  · have hjX := (Array.getElem?_eq_some_iff.1 hj).1
    have e5 : w5.heap[j]? = some o := (hg.block j (by simp; omega) (own_cell h.own hj hc)).trans ((Below.heap_alloc X _ j hjX).trans hj)
    have hne : j ≠ w.heap.size + 1 + 1 + 1 := by
      rintro rfl
      rw [show X.heap[w.heap.size + 1 + 1 + 1]? = _ from h.lb] at hj; cases hj; cases hc
    exact (heap_setCell_other w5 ⟨w.heap.size + 1 + 1 + 1, 0, none⟩ j _ hne).trans e5
  · have e5 : w5.heap[j]? = X.heap[j]? := (hg.block j (by simp; omega) (fun e => by have := hlt j e.symm; omega)).trans (Below.heap_alloc X _ j (by omega))
    exact (heap_setCell_other w5 ⟨w.heap.size + 1 + 1 + 1, 0, none⟩ j _ (by show j ≠ w.heap.size + 1 + 1 + 1; omega)).trans e5
end Go.Proofs.Ytkeimfkaoianmaa
