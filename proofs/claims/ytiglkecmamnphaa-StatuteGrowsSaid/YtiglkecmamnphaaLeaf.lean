/- isTime, isSaying, isThing, isSpell, has: what they return. -/
import Derived.Test.YtiglkecmamnphaaMem
namespace Go.Proofs.Ytiglkecmamnphaa
open Go.RowKit

set_option maxRecDepth 100000 in
theorem isTime_any (x : Int) (w : World) : Calls Try.prog 37 #[.int .i64 x] w fun e w' => e = .returned (.bool (timeB x)) ∧ w' = w := by
  unfold timeB
  by_cases h1 : 0 ≤ x
  · by_cases h2 : x ≤ 10000000
    · go_enter Try.func37, Try.ntmps37
      go_wp2
      go_ret
      exact ⟨by simp [h1, h2], rfl⟩
    · go_enter Try.func37, Try.ntmps37
      go_wp2
      go_ret
      exact ⟨by simp [h2], rfl⟩
  · have h3 : decide (0 ≤ x) = false := decide_eq_false h1
    go_enter Try.func37, Try.ntmps37
    go_wp2
    go_ret
    exact ⟨rfl, rfl⟩

set_option maxRecDepth 100000 in
theorem isSaying_any (x : Int) (w : World) : Calls Try.prog 39 #[.int .i64 x] w fun e w' => e = .returned (.bool (sayB x)) ∧ w' = w := by
  unfold sayB
  by_cases h1 : 0 ≤ x
  · by_cases h2 : x < 20
    · go_enter Try.func39, Try.ntmps39
      go_wp2
      go_ret
      exact ⟨by simp [h1, h2], rfl⟩
    · go_enter Try.func39, Try.ntmps39
      go_wp2
      go_ret
      exact ⟨by simp [h2], rfl⟩
  · have h3 : decide (0 ≤ x) = false := decide_eq_false h1
    go_enter Try.func39, Try.ntmps39
    go_wp2
    go_ret
    exact ⟨rfl, rfl⟩

set_option maxRecDepth 100000 in
theorem isThing_any (x : Int) (w : World) : Calls Try.prog 38 #[.int .i64 x] w fun e w' => e = .returned (.bool (thingB x)) ∧ w' = w := by
  unfold thingB
  by_cases h1 : 0 ≤ x
  · by_cases h2 : x ≤ 99999999
    · go_enter Try.func38, Try.ntmps38
      go_wp2
      go_ret
      exact ⟨by simp [h1, h2], rfl⟩
    · go_enter Try.func38, Try.ntmps38
      go_wp2
      go_ret
      exact ⟨by simp [h2], rfl⟩
  · have h3 : decide (0 ≤ x) = false := decide_eq_false h1
    go_enter Try.func38, Try.ntmps38
    go_wp2
    go_ret
    exact ⟨rfl, rfl⟩

set_option maxRecDepth 100000 in
theorem isSpell_any (f t : Int) (h0 : -9223372036854775808 ≤ t) (h9 : t ≤ 9223372036854775807) (w : World) : Calls Try.prog 40 #[.agg #[.int .i64 f, .int .i64 t]] w fun e w' => e = .returned (.bool (spellB f t)) ∧ Below w.heap.size w w' := by
  unfold spellB
  by_cases h1 : 0 ≤ f
  · by_cases h2 : f < t
    · by_cases h3 : t ≤ 10000001
      · go_enter Try.func40, Try.ntmps40
        go_wp2
        go_ret
        exact ⟨by simp [h1, h2, h3], below_alloc _ _⟩
      · go_enter Try.func40, Try.ntmps40
        go_wp2
        go_ret
        exact ⟨by simp [h3], below_alloc _ _⟩
    · have h4 : decide (f < t) = false := decide_eq_false h2
      go_enter Try.func40, Try.ntmps40
      go_wp2
      go_ret
      exact ⟨by simp [h2], below_alloc _ _⟩
  · have h3 : decide (0 ≤ f) = false := decide_eq_false h1
    go_enter Try.func40, Try.ntmps40
    go_wp2
    go_ret
    exact ⟨by simp [h1], below_alloc _ _⟩

set_option maxRecDepth 100000 in
theorem has_any (f t x : Int) (w : World) : Calls Try.prog 41 #[.agg #[.int .i64 f, .int .i64 t], .int .i64 x] w fun e w' => e = .returned (.bool (hasB f t x)) ∧ Below w.heap.size w w' := by
  unfold hasB
  by_cases h1 : f ≤ x
  · by_cases h2 : x < t
    · go_enter Try.func41, Try.ntmps41
      go_wp2
      go_ret
      exact ⟨by simp [h1, h2], below_alloc _ _⟩
    · go_enter Try.func41, Try.ntmps41
      go_wp2
      go_ret
      exact ⟨by simp [h2], below_alloc _ _⟩
  · have h3 : decide (f ≤ x) = false := decide_eq_false h1
    go_enter Try.func41, Try.ntmps41
    go_wp2
    go_ret
    exact ⟨by simp [h1], below_alloc _ _⟩
end Go.Proofs.Ytiglkecmamnphaa
