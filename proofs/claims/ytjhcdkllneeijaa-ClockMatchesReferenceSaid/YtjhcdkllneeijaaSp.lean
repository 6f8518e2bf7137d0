/- clock.isDrift, isTime, distance, Spread, narrow: what they return. -/
import Derived.Test.YtjhcdkllneeijaaMem
namespace Go.Proofs.Ytjhcdkllneeijaa
open Go.RowKit

set_option maxRecDepth 100000 in
theorem isTime_any (t : Int) (w : World) : Calls Try.prog 31 #[.int .i64 t] w fun e w' => e = .returned (.bool (okT t)) ∧ w' = w := by
  unfold okT
  by_cases h1 : 0 ≤ t
  · by_cases h2 : t ≤ 10000000
    · go_enter Try.func31, Try.ntmps31
      go_wp2
      go_ret
      exact ⟨by simp [h1, h2], rfl⟩
    · go_enter Try.func31, Try.ntmps31
      go_wp2
      go_ret
      exact ⟨by simp [h1, h2], rfl⟩
  · go_enter Try.func31, Try.ntmps31
    go_wp2
    go_ret
    exact ⟨by rw [show decide (0 ≤ t) = false from decide_eq_false (by omega)]; rfl, rfl⟩
def okD (d : Int) : Bool := decide (0 ≤ d) && decide (d ≤ 100)
theorem okD_iff {d : Int} : okD d = true ↔ 0 ≤ d ∧ d ≤ 100 := by simp [okD]
set_option maxRecDepth 100000 in
theorem isDrift_any (t : Int) (w : World) : Calls Try.prog 30 #[.int .i64 t] w fun e w' => e = .returned (.bool (okD t)) ∧ w' = w := by
  unfold okD
  by_cases h1 : 0 ≤ t
  · by_cases h2 : t ≤ 100
    · go_enter Try.func30, Try.ntmps30
      go_wp2
      go_ret
      exact ⟨by simp [h1, h2], rfl⟩
    · go_enter Try.func30, Try.ntmps30
      go_wp2
      go_ret
      exact ⟨by simp [h1, h2], rfl⟩
  · go_enter Try.func30, Try.ntmps30
    go_wp2
    go_ret
    exact ⟨by rw [show decide (0 ≤ t) = false from decide_eq_false (by omega)]; rfl, rfl⟩

set_option maxRecDepth 100000 in
theorem distance_any (a b : Int) (a0 : 0 ≤ a) (a1 : a ≤ 10000000) (b0 : 0 ≤ b) (b1 : b ≤ 10000000) (w : World) :
    Calls Try.prog 51 #[.int .i64 a, .int .i64 b] w fun e w' => e = .returned (.int .i64 (if a < b then b - a else a - b)) ∧ w' = w := by
  by_cases h : a < b
  · rw [if_pos h]
    have e1 : (if b > a then b else a) = b := if_pos h
    have e2 : (if b < a then b else a) = a := if_neg (by omega)
    go_enter Try.func51, Try.ntmps51
    go_wp2
    go_ret
    exact ⟨rfl, rfl⟩
  · rw [if_neg h]
    have e1 : (if b > a then b else a) = a := if_neg h
    have e2 : (if b < a then b else a) = b := by split <;> omega
    go_enter Try.func51, Try.ntmps51
    go_wp2
    go_ret
    exact ⟨rfl, rfl⟩

set_option maxRecDepth 100000 in
theorem spread_any (d n : Int) (w : World) :
    Calls Try.prog 11 #[.int .i64 d, .int .i64 n] w fun e w' => e = .returned (.tuple #[.int .i64 (spreadS d n).1, .int .i64 (spreadS d n).2]) ∧ w' = w := by
  by_cases h1 : 0 ≤ d ∧ d ≤ 100
  · by_cases h2 : 0 ≤ n ∧ n ≤ 10000000
    · have e : spreadS d n = (lo d n, hi d n) := if_pos ⟨h1.1, h1.2, h2⟩
      have k1 : okD d = true := okD_iff.2 h1
      have k2 : okT n = true := okT_iff.2 h2
      obtain ⟨d0, d1⟩ := h1
      obtain ⟨n0, n1⟩ := h2
      have e3 : (1000 * (n + 1) - 1).tdiv (1000 - d) = hi d n := Int.tdiv_eq_ediv_of_nonneg (by omega)
      have b3 := hi_big d0 d1 n0 n1
      have b4 := hi_nonneg d0 d1 n0
      by_cases h0 : 0 < n
      · have e4 : (1000 * (n - 1)).tdiv (1000 + d) = lo d n - 1 := by rw [Int.tdiv_eq_ediv_of_nonneg (by omega), lo, if_pos h0]; omega
        have b5 := lo_le_self d0 n0
        have b6 := lo_nonneg (n := n) d0
        rw [e]
        generalize lo d n = x at *
        generalize hi d n = y at *
        clear e
        go_enter Try.func11, Try.ntmps11
        go_wp2_with (first | (go_at_call 30; refine (isDrift_any _ _).mono ?_; rintro e w' ⟨rfl, rfl⟩) | (go_at_call 31; refine (isTime_any _ _).mono ?_; rintro e w' ⟨rfl, rfl⟩))
        go_ret2
        exact ⟨by simp, rfl⟩
      · have e4 : lo d n = 0 := by rw [lo, if_neg h0]
        rw [e, e4]
        generalize hi d n = y at *
        clear e e4
        go_enter Try.func11, Try.ntmps11
        go_wp2_with (first | (go_at_call 30; refine (isDrift_any _ _).mono ?_; rintro e w' ⟨rfl, rfl⟩) | (go_at_call 31; refine (isTime_any _ _).mono ?_; rintro e w' ⟨rfl, rfl⟩))
        go_ret2
        exact ⟨rfl, rfl⟩
    · have e : spreadS d n = (0, 0) := if_neg (by omega)
      have k1 : okD d = true := okD_iff.2 h1
      have k2 : okT n = false := by cases h : okT n with | true => exact absurd (okT_iff.1 h) h2 | false => rfl
      rw [e]
      clear e h1 h2
      go_enter Try.func11, Try.ntmps11
      go_wp2_with (first | (go_at_call 30; refine (isDrift_any _ _).mono ?_; rintro e w' ⟨rfl, rfl⟩) | (go_at_call 31; refine (isTime_any _ _).mono ?_; rintro e w' ⟨rfl, rfl⟩))
      go_ret2
      exact ⟨rfl, rfl⟩
  · have e : spreadS d n = (0, 0) := if_neg (by omega)
    have k1 : okD d = false := by cases h : okD d with | true => exact absurd (okD_iff.1 h) h1 | false => rfl
    rw [e]
    clear e h1
    go_enter Try.func11, Try.ntmps11
    go_wp2_with (first | (go_at_call 30; refine (isDrift_any _ _).mono ?_; rintro e w' ⟨rfl, rfl⟩) | (go_at_call 31; refine (isTime_any _ _).mono ?_; rintro e w' ⟨rfl, rfl⟩))
    go_ret2
    exact ⟨rfl, rfl⟩


set_option maxRecDepth 100000 in
theorem narrow_any (g : Nat) (a b x y : Int) (w : World) (h : Row w g 62 #[.int .i64 a, .int .i64 b]) :
    Calls Try.prog 46 #[.pointer (some ⟨g, 0, none⟩), .int .i64 x, .int .i64 y] w fun e w' => e = .returned (.tuple #[]) ∧ w' = (w.setCell ⟨g, 0, none⟩ (.int .i64 (max a x))).setCell ⟨g, 1, none⟩ (.int .i64 (min b y)) := by
  obtain ⟨c0, c1, f0, f1⟩ := h.two
  have e1 : (if x > a then x else a) = max a x := by rw [Int.max_def]; split <;> split <;> omega
  have e2 : (if y < b then y else b) = min b y := by rw [Int.min_def]; split <;> split <;> omega
  have c1' := (h.put0 (.int .i64 (max a x))).two.2.1
  have f1' := (h.put0 (.int .i64 (max a x))).two.2.2.2
  generalize max a x = m at *
  generalize min b y = k at *
  clear h
  go_enter Try.func46, Try.ntmps46
  go_wp2
  go_end0
  exact ⟨rfl, rfl⟩
end Go.Proofs.Ytjhcdkllneeijaa
