/- A clock in a box whose readings are a row of the call's own. -/
import Derived.Test.YtjhcdkllneeijaaLaw
import Derived.Deep.AppendLies
namespace Go.Proofs.Ytjhcdkllneeijaa
open Go.RowKit

structure Own1 (base : Nat) (W : World) (g : Nat) (d : Int) (A : Option Addr) (cap : Nat) (rs : List Rd) : Prop where
  row : Row W g 24 #[.int .i64 d, .slice A rs.length cap]
  own : W.ownsRow base 50 3 (.slice A rs.length cap) rs.length (flat3 rs)
section
variable {base g N cap : Nat} {W X w1 : World} {d : Int} {A : Option Addr} {rs : List Rd}
theorem Own1.later (h : Own1 base W g d A cap rs) (o : Obj) : Own1 base (W.alloc o) g d A cap rs := ⟨h.row.later o, h.own.alloc o⟩
theorem Own1.drewN (h : Own1 base W g d A cap rs) (n : Nat) : Own1 base (W.drewN n) g d A cap rs := ⟨h.row.drawnN n, h.own⟩
theorem Own1.over (h : Own1 base W g d A cap rs) (hb : Below W.heap.size W X) : Own1 base X g d A cap rs := ⟨Row.below h.row hb h.row.inside, own_over h.own hb⟩
theorem Own1.ck (h : Own1 base W g d A cap rs) : Ck W g d A rs.length cap rs := ⟨h.row, own_rds rfl h.own, rfl⟩
theorem Own1.next {n : Nat} {r : Rd} {g' cap' : Nat} (hn : n = rs.length) (hgb : g < base) (h : Own1 base X g d A cap rs) (hg : X.grownBy w1 (Value.slice A n cap).ownBlock)
    (ho : w1.ownsRow base 50 3 (.slice (some ⟨g', 0, none⟩) (n + 1) cap') (n + 1) (flat3 rs ++ enc3 r)) :
    (Row w1 g 24 #[.int .i64 d, .slice A n cap]) ∧ Own1 base (w1.setCell ⟨g, 1, none⟩ (.slice (some ⟨g', 0, none⟩) (n + 1) cap')) g d (some ⟨g', 0, none⟩) cap' (rs ++ [r]) := by
  subst hn
  have hlt := fun k hk => (h.own.lt k hk).1
  have c1 : Row w1 g 24 #[.int .i64 d, .slice A rs.length cap] := h.row.grown hg (fun e => by have := hlt _ e.symm; omega)
  have hl : (rs ++ [r]).length = rs.length + 1 := by simp
  have hgl := (ho.lt g' rfl).1
  refine ⟨c1, ?_, ?_⟩
  · rw [hl]; exact c1.put1 _
  · rw [hl, flat3_app, show flat3 [r] = enc3 r by simp [flat3]]
    exact ho.kept (grown_set _ _ _) (.inr (fun e => by
      have : g' = g := by simpa [Value.ownBlock] using e
      omega))
theorem Own1.keepB {B n : Nat} {v : Value} (hn : n = rs.length) (hB : B ≤ base) (hb : Below B W X) (hX : B ≤ X.heap.size) (h : Own1 base X g d A cap rs) (hgB : B ≤ g) (hg : X.grownBy w1 (Value.slice A n cap).ownBlock) : Below B W (w1.setCell ⟨g, 1, none⟩ v) := by
  subst hn
  exact (hb.grown hg hX (fun k hk => by have := (h.own.lt k hk).1; omega)).setCell (p := ⟨g, 1, none⟩) hgB _
end
/-- A new clock without readings, in a box. -/
theorem Own1.new (W : World) (d : Int) (base g : Nat) (hg : W.heap.size = g) : Own1 base (W.alloc (.cells #[.int .i64 d, .slice none 0 0] 24)) g d none 0 [] := ⟨Row.made_at _ _ _ hg, ⟨rfl, .inl ⟨rfl, rfl⟩⟩⟩
theorem Mok.range {d start : Int} {rates : List Int} {rs : List Rd} (h : Mok d start rates rs) (d0 : 0 ≤ d) (d1 : d ≤ 100) : ∀ r ∈ rs, 0 ≤ r.1 ∧ r.1 ≤ 6500 ∧ 0 ≤ r.2.1 ∧ r.2.1 ≤ r.2.2 ∧ r.2.2 ≤ 3050 := by
  intro r hr
  obtain ⟨s, s0, s1, h1, h2, h3, h4, h5⟩ := h.ok r hr
  have := shN_range (start := start) d0 d1 rates s0 (show s ≤ 5000 by omega)
  omega
end Go.Proofs.Ytjhcdkllneeijaa
