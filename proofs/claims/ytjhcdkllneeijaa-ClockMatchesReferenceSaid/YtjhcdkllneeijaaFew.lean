/- few: a clock with at most 13 readings. -/
import Derived.Test.YtjhcdkllneeijaaLaw
import Derived.Laws.StructEq
namespace Go.Proofs.Ytjhcdkllneeijaa
open Go.RowKit

theorem Rds.take {w : World} {B : Nat} {A : Option Addr} {l : List Rd} (h : Rds w B A l) (k : Nat) : Rds w B A (l.take k) := by
  rcases h with rfl | ⟨b, o, hA, hB, hc⟩
  · exact .inl (by simp)
  · exact .inr ⟨b, o, hA, hB, fun i r hr => by
      rw [List.getElem?_take] at hr
      split at hr
      · exact hc i r hr
      · cases hr⟩
theorem ne_spell (a b c d : Int) (w : World) : (binOp .neq 32 (.agg #[.int .i64 a, .int .i64 b]) (.agg #[.int .i64 c, .int .i64 d])).run Try.prog w = .ok (.bool (!(decide (a = c) && decide (b = d)))) w := by
  have u3 := Try.underlying3
  have a3 := Try.isAgg3
  have z3 := Try.sizeOf3
  have hS : Try.prog.underlying 32 = some (.struct (Try.prog.fieldsOf 32)) := by kernel_rfl
  have hp : Try.prog.stoodInHeld 32 = false := by kernel_rfl
  rw [run_neq_struct, show (10000 : Nat) = 9999 + 1 from rfl, run_equalIn_agg w 9999 32 _ _ hS hp]
  simp only [Program.fieldsOf, Try.underlying32]
  go_simp
  by_cases h1 : a = c <;> by_cases h2 : b = d <;> simp [h1, h2]

set_option maxRecDepth 100000 in
set_option maxHeartbeats 8000000 in
theorem few_any (d : Int) (A : Option Addr) (N c M : Nat) (hM : M = min N 13) (h1 : N ≤ c) (h2 : c ≤ 9223372036854775807) (w : World) :
    Calls Try.prog 15 #[.agg #[.int .i64 d, .slice A N c]] w fun e w' => e = .returned (.agg #[.int .i64 d, .slice A M c]) ∧ Below w.heap.size w w' := by
  have eM : ∀ (ts : Array TypeId) (t : TypeId) (W : World), (Builtin.min_ ts t #[.int .i64 (N : Int), .int .i64 13]).run Try.prog W = .ok (.int .i64 (M : Int)) W := by
    intro ts t W
    rw [run_min_int2, show (if (13 : Int) < (N : Int) then (13 : Int) else (N : Int)) = (M : Int) by rw [hM]; split <;> omega]
  have m1 : M ≤ N := by omega
  have m2 : M ≤ 13 := by omega
  have m3 : M ≤ c := by omega
  obtain ⟨W2, hW2⟩ : ∃ W2, W2 = (w.alloc (Obj.cells #[Value.int IntKind.i64 d, Value.slice A N c] 24)).alloc (Obj.cells #[Value.int IntKind.i64 0, Value.slice none 0 0] 24) := ⟨_, rfl⟩
  have r1 : Row W2 w.heap.size 24 #[.int .i64 d, .slice A N c] := by rw [hW2]; exact (Row.made _ _ _).later _
  have r2 : Row W2 (w.heap.size + 1) 24 #[.int .i64 0, .slice none 0 0] := by rw [hW2]; exact Row.made_at _ _ _ (by simp)
  have b2 : Below w.heap.size w W2 := by rw [hW2]; exact keep_alloc (below_alloc _ _) _
  obtain ⟨k0, k1, _, _⟩ := r1.two
  obtain ⟨m0, m4, m5, m6⟩ := r2.two
  have R2 := Lib.hid r2; have B2 := Lib.hid b2
  clear hM r1 r2 b2
  go_enter Try.func15, Try.ntmps15
  go_wp2
  rw [← hW2]
  clear hW2
  go_region_with fail
  all_goals go_wp2
  all_goals refine bodyPost_ret (res_clk rfl rfl (put2 R2.out _ _).drawn) rfl ?_
  all_goals exact ⟨rfl, (below_put B2.out (Nat.le_succ _) _ _).drew⟩
end Go.Proofs.Ytjhcdkllneeijaa
