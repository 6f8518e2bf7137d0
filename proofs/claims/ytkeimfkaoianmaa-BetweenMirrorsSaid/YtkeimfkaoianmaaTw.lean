/- Two rows of bounds of the call's own, each in a box. -/
import Derived.Test.YtkeimfkaoianmaaCm
import Derived.Deep.AppendLies
namespace Go.Proofs.Ytkeimfkaoianmaa
open Go.RowKit

theorem grown_setp (W : World) (p : Addr) (v : Value) : W.grownBy (W.setCell p v) (some p.block) := ⟨rfl, rfl, rfl, by simp, fun i _ hne => heap_setCell_other W p i v (fun e => hne (by rw [e]))⟩
/-- A box whose bounds are the call's own. -/
structure Own1 (base : Nat) (W : World) (g : Nat) (d : Int) (A : Option Addr) (cap : Nat) (rs : List Bn) : Prop where
  row : Row W g 28 #[.int .i64 d, .slice A rs.length cap]
  own : W.ownsRow base 30 3 (.slice A rs.length cap) rs.length (flat3 rs)
section
variable {base g N cap : Nat} {W X w1 : World} {d : Int} {A : Option Addr} {rs : List Bn}
theorem Own1.later (h : Own1 base W g d A cap rs) (o : Obj) : Own1 base (W.alloc o) g d A cap rs := ⟨h.row.later o, h.own.alloc o⟩
theorem Own1.drewN (h : Own1 base W g d A cap rs) (n : Nat) : Own1 base (W.drewN n) g d A cap rs := ⟨h.row.drawnN n, h.own⟩
theorem Own1.over (h : Own1 base W g d A cap rs) (hb : Below W.heap.size W X) : Own1 base X g d A cap rs := ⟨Row.below h.row hb h.row.inside, own_over h.own hb⟩
theorem Own1.rds (h : Own1 base W g d A cap rs) : Rds W W.heap.size A rs := own_rds rfl h.own
theorem Own1.next {n : Nat} {r : Bn} {g' cap' : Nat} (hn : n = rs.length) (hgb : g < base) (h : Own1 base X g d A cap rs) (hg : X.grownBy w1 (Value.slice A n cap).ownBlock)
    (ho : w1.ownsRow base 30 3 (.slice (some ⟨g', 0, none⟩) (n + 1) cap') (n + 1) (flat3 rs ++ enc3 r)) :
    (Row w1 g 28 #[.int .i64 d, .slice A n cap]) ∧ Own1 base (w1.setCell ⟨g, 1, none⟩ (.slice (some ⟨g', 0, none⟩) (n + 1) cap')) g d (some ⟨g', 0, none⟩) cap' (rs ++ [r]) := by
  subst hn
  have hlt := fun k hk => (h.own.lt k hk).1
  have c1 : Row w1 g 28 #[.int .i64 d, .slice A rs.length cap] := h.row.grown hg (fun e => by have := hlt _ e.symm; omega)
  have hl : (rs ++ [r]).length = rs.length + 1 := by simp
  have hgl := (ho.lt g' rfl).1
  refine ⟨c1, ?_, ?_⟩
  · rw [hl]; exact c1.put1 _
  · rw [hl, flat3_app, show flat3 [r] = enc3 r by simp [flat3]]
    exact ho.kept (grown_setp _ _ _) (.inr (fun e => by
      have : g' = g := by simpa [Value.ownBlock] using e
      omega))
theorem Own1.keepB {B n : Nat} {v : Value} (hn : n = rs.length) (hB : B ≤ base) (hb : Below B W X) (hX : B ≤ X.heap.size) (h : Own1 base X g d A cap rs) (hgB : B ≤ g) (hg : X.grownBy w1 (Value.slice A n cap).ownBlock) : Below B W (w1.setCell ⟨g, 1, none⟩ v) := by
  subst hn
  exact (hb.grown hg hX (fun k hk => by have := (h.own.lt k hk).1; omega)).setCell (p := ⟨g, 1, none⟩) hgB _
end
/-- New bounds, none yet, in a box. -/
theorem Own1.new (W : World) (d : Int) (base g : Nat) (hg : W.heap.size = g) : Own1 base (W.alloc (.cells #[.int .i64 d, .slice none 0 0] 28)) g d none 0 [] := ⟨Row.made_at _ _ _ hg, ⟨rfl, .inl ⟨rfl, rfl⟩⟩⟩
def ob : Option Addr → Option Nat
  | some a => some a.block
  | none => none
theorem ob_own (A : Option Addr) (n c : Nat) : (Value.slice A n c).ownBlock = ob A := by cases A <;> rfl
section
variable {base g g2 cap n : Nat} {X w1 : World} {d : Int} {A A2 : Option Addr} {rs : List Bn} {v : Value}
theorem Own1.aside (h : Own1 base X g d A cap rs) (hg : X.grownBy w1 (ob A2)) (hb : g < base) (hob : ∀ j, ob A2 = some j → base ≤ j) (hne : ∀ j, ob A = some j → ob A2 = some j → False) (h2 : g2 ≠ g) (h2b : g2 < base) : Own1 base (w1.setCell ⟨g2, 1, none⟩ v) g d A cap rs := by
  refine ⟨(h.row.grown hg (fun e => by have := hob _ e.symm; omega)).aside (p := ⟨g2, 1, none⟩) h2 v, ?_⟩
  have k1 : w1.ownsRow base 30 3 (.slice A rs.length cap) rs.length (flat3 rs) := h.own.kept hg (by
    rw [ob_own]
    cases hA : ob A with
    | none => exact .inl rfl
    | some j => exact .inr (fun e => hne j hA e.symm))
  refine k1.kept (grown_setp _ _ _) (.inr (fun e => ?_))
  rw [ob_own] at e
  have := (h.own.lt g2 (by rw [ob_own]; exact e)).1
  omega
end
/-- The state: below G the world is as it was; two boxes at G and G + 1. -/
structure Nst (W3 wr : World) (G : Nat) (d : Int) (AF : Option Addr) (cF : Nat) (F : List Bn) (AV : Option Addr) (cV : Nat) (V : List Bn) : Prop where
  bel : Below G W3 wr
  f : Own1 (G + 2) wr G d AF cF F
  v : Own1 (G + 2) wr (G + 1) d AV cV V
  sep : ∀ j, ob AF = some j → ob AV = some j → False
  size : G + 2 ≤ wr.heap.size
section
variable {W3 wr X w1 : World} {G cF cV : Nat} {d : Int} {AF AV : Option Addr} {F V : List Bn}
theorem Nst.later (h : Nst W3 wr G d AF cF F AV cV V) (o : Obj) : Nst W3 (wr.alloc o) G d AF cF F AV cV V := ⟨h.bel.alloc (by have := h.size; omega) o, h.f.later o, h.v.later o, h.sep, by have := h.size; simp; omega⟩
theorem Nst.drewN (h : Nst W3 wr G d AF cF F AV cV V) (n : Nat) : Nst W3 (wr.drewN n) G d AF cF F AV cV V := ⟨below_drawnN h.bel n, h.f.drewN n, h.v.drewN n, h.sep, h.size⟩
theorem Nst.drew (h : Nst W3 wr G d AF cF F AV cV V) : Nst W3 wr.drew G d AF cF F AV cV V := ⟨h.bel.drew, ⟨h.f.row, h.f.own⟩, ⟨h.v.row, h.v.own⟩, h.sep, h.size⟩
/-- A store into a block of which neither box knows. -/
theorem Nst.put (h : Nst W3 wr G d AF cF F AV cV V) {q : Nat} (hq : G + 2 ≤ q) (hF : ob AF ≠ some q) (hV : ob AV ≠ some q) (i : Nat) (u : Value) : Nst W3 (wr.setCell ⟨q, i, none⟩ u) G d AF cF F AV cV V :=
  ⟨h.bel.setCell (p := ⟨q, i, none⟩) (by show G ≤ q; omega) u, ⟨h.f.row.aside (p := ⟨q, i, none⟩) (by show q ≠ G; omega) u, h.f.own.kept (grown_setp _ _ _) (.inr (by rw [ob_own]; exact hF))⟩,
    ⟨h.v.row.aside (p := ⟨q, i, none⟩) (by show q ≠ G + 1; omega) u, h.v.own.kept (grown_setp _ _ _) (.inr (by rw [ob_own]; exact hV))⟩, h.sep, by have := h.size; simpa [World.setCell] using this⟩
theorem Nst.ltF (h : Nst W3 wr G d AF cF F AV cV V) {j : Nat} (e : ob AF = some j) : G + 2 ≤ j ∧ j < wr.heap.size := h.f.own.lt j (by rw [ob_own]; exact e)
theorem Nst.ltV (h : Nst W3 wr G d AF cF F AV cV V) {j : Nat} (e : ob AV = some j) : G + 2 ≤ j ∧ j < wr.heap.size := h.v.own.lt j (by rw [ob_own]; exact e)
theorem Nst.pushF (h : Nst W3 X G d AF cF F AV cV V) {n g' cap' H : Nat} {r : Bn} (hn : n = F.length) (hg : X.grownBy w1 (Value.slice AF n cF).ownBlock)
    (ho : w1.ownsRow (G + 2) 30 3 (.slice (some ⟨g', 0, none⟩) (n + 1) cap') (n + 1) (flat3 F ++ enc3 r)) (hat : (Value.slice AF n cF).ownBlock = some g' ∨ g' = H) (hH : X.heap.size = H) :
    Row w1 G 28 #[.int .i64 d, .slice AF n cF] ∧ Nst W3 (w1.setCell ⟨G, 1, none⟩ (.slice (some ⟨g', 0, none⟩) (n + 1) cap')) G d (some ⟨g', 0, none⟩) cap' (F ++ [r]) AV cV V := by
  obtain ⟨n1, n2⟩ := Own1.next hn (by omega) h.f hg ho
  have hs := hg.size
  rw [ob_own] at hg hat
  refine ⟨n1, ⟨(h.bel.grown hg (by have := h.size; omega) (fun k hk => by have := (h.ltF hk).1; omega)).setCell (p := ⟨G, 1, none⟩) (Nat.le_refl _) _, n2, h.v.aside hg (by omega) (fun j e => (h.ltF e).1) (fun j e1 e2 => h.sep j e2 e1) (by omega) (by omega), fun j e1 e2 => ?_, by have := h.size; simp [World.setCell]; omega⟩⟩
  have e1' : g' = j := by simpa [ob] using e1
  subst e1'
  rcases hat with hat | hat
  · exact h.sep _ hat e2
  · have := (h.ltV e2).2; omega
theorem Nst.pushV (h : Nst W3 X G d AF cF F AV cV V) {n g' cap' H : Nat} {r : Bn} (hn : n = V.length) (hg : X.grownBy w1 (Value.slice AV n cV).ownBlock)
    (ho : w1.ownsRow (G + 2) 30 3 (.slice (some ⟨g', 0, none⟩) (n + 1) cap') (n + 1) (flat3 V ++ enc3 r)) (hat : (Value.slice AV n cV).ownBlock = some g' ∨ g' = H) (hH : X.heap.size = H) :
    Row w1 (G + 1) 28 #[.int .i64 d, .slice AV n cV] ∧ Nst W3 (w1.setCell ⟨G + 1, 1, none⟩ (.slice (some ⟨g', 0, none⟩) (n + 1) cap')) G d AF cF F (some ⟨g', 0, none⟩) cap' (V ++ [r]) := by
  obtain ⟨n1, n2⟩ := Own1.next hn (by omega) h.v hg ho
  have hs := hg.size
  rw [ob_own] at hg hat
  refine ⟨n1, ⟨(h.bel.grown hg (by have := h.size; omega) (fun k hk => by have := (h.ltV hk).1; omega)).setCell (p := ⟨G + 1, 1, none⟩) (Nat.le_succ _) _, h.f.aside hg (by omega) (fun j e => (h.ltV e).1) (fun j e1 e2 => h.sep j e1 e2) (by omega) (by omega), n2, fun j e1 e2 => ?_, by have := h.size; simp [World.setCell]; omega⟩⟩
  have e2' : g' = j := by simpa [ob] using e2
  subst e2'
  rcases hat with hat | hat
  · exact h.sep _ e1 hat
  · have := (h.ltF e1).2; omega
end

end Go.Proofs.Ytkeimfkaoianmaa
