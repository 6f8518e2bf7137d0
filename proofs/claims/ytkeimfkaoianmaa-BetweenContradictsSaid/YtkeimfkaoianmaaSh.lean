/- short: at most 20 numbers of a list. -/
import Derived.Test.YtkeimfkaoianmaaEx
import Derived.Handy
namespace Go.Proofs.Ytkeimfkaoianmaa
open Go.RowKit

theorem Nums.take {w : World} {B : Nat} {A : Option Addr} {l : List Int} (h : Nums w B A l) (k : Nat) : Nums w B A (l.take k) := by
  rcases h with rfl | ⟨b, o, hA, hB, hc⟩
  · exact .inl (by simp)
  · refine .inr ⟨b, o, hA, hB, fun i r hr => hc i r ?_⟩
    rw [List.getElem?_take] at hr
    split at hr
    · exact hr
    · cases hr

set_option maxRecDepth 100000 in
set_option maxHeartbeats 4000000 in
theorem short_any (A : Option Addr) (L c M : Nat) (hM : M = min L 20) (h1 : L ≤ c) (_h2 : c ≤ 9223372036854775807) (w : World) :
    Calls Try.prog 11 #[.slice A L c] w fun e w' => e = .returned (.slice A M c) ∧ Below w.heap.size w w' := by
  have eM : ∀ (ts : Array TypeId) (t : TypeId) (W : World), (Builtin.min_ ts t #[.int .i64 (L : Int), .int .i64 20]).run Try.prog W = .ok (.int .i64 (M : Int)) W := by
    intro ts t W
    rw [run_min_int2, show (if (20 : Int) < (L : Int) then (20 : Int) else (L : Int)) = (M : Int) by rw [hM]; split <;> omega]
  have m1 : M ≤ L := by omega
  have m3 : M ≤ c := by omega
  clear hM
  go_enter Try.func11, Try.ntmps11
  go_wp2
  go_ret
  exact ⟨rfl, Below.refl _ _⟩
end Go.Proofs.Ytkeimfkaoianmaa
