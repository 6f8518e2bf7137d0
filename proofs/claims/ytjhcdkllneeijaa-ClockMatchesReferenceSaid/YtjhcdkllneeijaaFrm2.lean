/- Openers that also say that a slice's length is at most its capacity. -/
import Derived.Test.YtjhcdkllneeijaaFrame
namespace Go.Proofs.Ytjhcdkllneeijaa
open Go.ChangeShapes Go.WideShapes Go.ChangeAt Go.RowKit Go.Joins Go.Deep
theorem cap_of {H : Type} {enc : TypeId × Value → H} {P : Program} {W : World} {t e : TypeId} {n len cap : Nat} {A : Option Addr} {x : DataW H × List MemPlace} (ht : P.underlying t = some (.slice e))
    (h : DataW.trod enc P W 0 (fun _ => true) true n t [.slice A len cap] = some x) : len ≤ cap ∧ cap ≤ 9223372036854775807 := by
  rcases open_slice ht h with ⟨hc, _⟩ | ⟨a, l, c, m, k, D, Pl, hc, hb, hl, hm, _⟩
  · cases hc; omega
  · cases hc; unfold maxLen at hm; omega
section
variable {H : Type} {enc : TypeId × Value → H} {W : World} {base : Nat} {v : Value} {d : DataW H} {p : List MemPlace}
theorem open_spells2 (hv : Value.okWide Try.prog W .any base 27 v) (h : DataW.Trod enc Try.prog W 0 (fun _ => true) true 27 v d p) :
    ∃ (A : Option Addr) (cap : Nat) (l : List (Int × Int)), v = .slice A l.length cap ∧ Sps W W.heap.size A l ∧ (∀ r ∈ l, In64 r.1 ∧ In64 r.2) ∧ (l.length ≤ cap ∧ cap ≤ 9223372036854775807) := by
  obtain ⟨A, cap, l, rfl, h1, h2, _⟩ := open_spells hv h
  obtain ⟨fuel, hf⟩ := h
  exact ⟨A, cap, l, rfl, h1, h2, cap_of Try.underlying27 hf⟩
theorem open_clock2 (hv : Value.okWide Try.prog W .any base 24 v) (h : DataW.Trod enc Try.prog W 0 (fun _ => true) true 24 v d p) :
    ∃ (dr : Int) (A : Option Addr) (cap : Nat) (rs : List Rd), v = .agg #[.int .i64 dr, .slice A rs.length cap] ∧ Rds W W.heap.size A rs ∧ In64 dr ∧ (∀ r ∈ rs, In64 r.1 ∧ In64 r.2.1 ∧ In64 r.2.2) ∧ (rs.length ≤ cap ∧ cap ≤ 9223372036854775807) := by
  obtain ⟨dr, A, cap, rs, rfl, h1, h2, h3, _⟩ := open_clock hv h
  obtain ⟨v0, v1, y0, y1, n, hvv, _, _, g0, g1⟩ := open_agg2 Try.underlying24 (by kernel_rfl) (by kernel_rfl) hv h
  simp only [Value.agg.injEq, Array.mk.injEq, List.cons.injEq, and_true] at hvv
  obtain ⟨rfl, rfl⟩ := hvv
  exact ⟨dr, A, cap, rs, rfl, h1, h2, h3, cap_of Try.underlying22 g1⟩
end
end Go.Proofs.Ytjhcdkllneeijaa
