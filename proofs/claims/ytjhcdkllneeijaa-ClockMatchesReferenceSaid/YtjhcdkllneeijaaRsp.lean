/- The reference's Fits and Spread. -/
import Derived.Test.YtjhcdkllneeijaaSp
import Derived.Deep.LoopGhost
namespace Go.Proofs.Ytjhcdkllneeijaa
open Go.RowKit

set_option maxRecDepth 100000 in
theorem rfits_any (d x n : Int) (d0 : 0 ≤ d) (d1 : d ≤ 100) (x0 : 0 ≤ x) (x1 : x ≤ 30000000) (n0 : 0 ≤ n) (n1 : n ≤ 10000000) (w : World) :
    Calls Try.prog 32 #[.int .i64 d, .int .i64 x, .int .i64 n] w fun e w' => e = .returned (.bool (decide (lo d n ≤ x) && decide (x ≤ hi d n))) ∧ w' = w := by
  have h1 := le_hi d1 n x
  have h2 := lo_le d0 n0 x0
  have z1 := Int.mul_nonneg (show 0 ≤ 1000 - d by omega) x0
  have z2 := Int.mul_nonneg (show 0 ≤ 1000 + d by omega) x0
  have z3 := Int.mul_le_mul_of_nonneg_right (show 1000 - d ≤ 1000 by omega) x0
  have z4 := Int.mul_le_mul_of_nonneg_right (show 1000 + d ≤ 1100 by omega) x0
  generalize lo d n = L at *
  generalize hi d n = H at *
  by_cases c1 : (1000 - d) * x - 1000 < 1000 * n
  · by_cases c2 : 1000 * n < (1000 + d) * x + 1000
    · have e : (decide (L ≤ x) && decide (x ≤ H)) = true := by rw [decide_eq_true (h2.2 c2), decide_eq_true (h1.2 c1)]; rfl
      rw [e]
      clear h1 h2 e
      go_enter Try.func32, Try.ntmps32
      go_wp2
      go_ret
      exact ⟨rfl, rfl⟩
    · have e : (decide (L ≤ x) && decide (x ≤ H)) = false := by rw [decide_eq_false (fun h => c2 (h2.1 h))]; rfl
      rw [e]
      clear h1 h2 e
      go_enter Try.func32, Try.ntmps32
      go_wp2
      go_ret
      exact ⟨rfl, rfl⟩
  · have e : (decide (L ≤ x) && decide (x ≤ H)) = false := by rw [decide_eq_false (fun h => c1 (h1.1 h)), Bool.and_false]
    rw [e]
    clear h1 h2 e
    go_enter Try.func32, Try.ntmps32
    go_wp2
    go_ret
    exact ⟨rfl, rfl⟩

/-- Where the reference's search begins. -/
theorem start_lo {d n : Int} (d0 : 0 ≤ d) (d1 : d ≤ 100) (n0 : 0 ≤ n) : ∃ s : Int, (1000 * (n - 1)).tdiv (1000 + d) = s ∧ -1 ≤ s ∧ max (s - 1) 0 ≤ lo d n ∧ s ≤ 10000 * n := by
  by_cases h : 0 < n
  · have e : (1000 * (n - 1)).tdiv (1000 + d) = lo d n - 1 := by rw [Int.tdiv_eq_ediv_of_nonneg (by omega), lo, if_pos h]; omega
    have := lo_nonneg (n := n) d0
    have h2 : 0 < lo d n := by
      rw [lo, if_pos h]
      have := Int.ediv_nonneg (show 0 ≤ 1000 * (n - 1) by omega) (show 0 ≤ 1000 + d by omega)
      omega
    have h3 := lo_le_self d0 n0
    exact ⟨_, e, by omega, by omega, by omega⟩
  · obtain rfl : n = 0 := by omega
    have e : (1000 * ((0 : Int) - 1)).tdiv (1000 + d) = if d = 0 then -1 else 0 := by
      by_cases hd : d = 0
      · subst hd; decide
      · rw [if_neg hd, show (1000 : Int) * (0 - 1) = -1000 by omega, Int.neg_tdiv, Int.tdiv_eq_zero_of_lt (by omega) (by omega)]; rfl
    refine ⟨_, e, by split <;> omega, ?_, by split <;> omega⟩
    rw [lo, if_neg (show ¬ (0 : Int) < 0 by omega)]
    split <;> omega
theorem start_hi {d n : Int} (d0 : 0 ≤ d) (d1 : d ≤ 100) (n0 : 0 ≤ n) : ∃ s : Int, (1000 * n).tdiv (1000 - d) = s ∧ 0 ≤ s ∧ s ≤ hi d n := by
  refine ⟨(1000 * n) / (1000 - d), Int.tdiv_eq_ediv_of_nonneg (by omega), Int.ediv_nonneg (by omega) (by omega), ?_⟩
  rw [hi]
  exact Int.ediv_le_ediv (by omega) (by omega)

set_option maxRecDepth 100000 in
set_option maxHeartbeats 8000000 in
theorem rspread_any (d n : Int) (w : World) :
    Calls Try.prog 12 #[.int .i64 d, .int .i64 n] w fun e w' => e = .returned (.tuple #[.int .i64 (spreadS d n).1, .int .i64 (spreadS d n).2]) ∧ w' = w := by
  by_cases h1 : 0 ≤ d
  · by_cases h2 : d ≤ 100
    · by_cases h3 : 0 ≤ n
      · by_cases h4 : n ≤ 10000000
        · have e : spreadS d n = (lo d n, hi d n) := if_pos ⟨h1, h2, h3, h4⟩
          rw [e]
          clear e
          dsimp only
          obtain ⟨s, es, s0, s1, s9⟩ := start_lo h1 h2 h3
          obtain ⟨t, et, t0, t1⟩ := start_hi h1 h2 h3
          have l0 := lo_nonneg (n := n) h1
          have l1 := lo_hi h1 h2 h3
          have l2 := hi_big h1 h2 h3 h4
          have hf := fun (x : Int) (x0 : 0 ≤ x) (x1 : x ≤ 30000000) (W : World) => rfits_any d x n h1 h2 x0 x1 h3 h4 W
          obtain ⟨st, hst⟩ : ∃ st, max (s - 1) 0 = st := ⟨_, rfl⟩
          rw [hst] at s1
          have st0 : 0 ≤ st := by omega
          generalize lo d n = A at *
          generalize hi d n = B at *
          obtain ⟨tt, htt⟩ : ∃ tt, max (t - 1) A = tt := ⟨_, rfl⟩
          have tt0 : A ≤ tt := by omega
          have tt1 : tt ≤ B := by omega
          have eM : ∀ (ts : Array TypeId) (t' : TypeId) (W : World), (Builtin.max_ ts t' #[.int .i64 (s - 1), .int .i64 0]).run Try.prog W = .ok (.int .i64 st) W := by
            intro ts t' W
            rw [run_max_int2, show (if (0 : Int) > s - 1 then (0 : Int) else s - 1) = st by split <;> omega]
          have eT : ∀ (ts : Array TypeId) (t' : TypeId) (W : World), (Builtin.max_ ts t' #[.int .i64 (t - 1), .int .i64 A]).run Try.prog W = .ok (.int .i64 tt) W := by
            intro ts t' W
            rw [run_max_int2, show (if A > t - 1 then A else t - 1) = tt by split <;> omega]
          have HF := Lib.hid hf
          clear hf
          go_enter Try.func12, Try.ntmps12
          go_wp2
          go_loopg [6] (A - st).toNat (fun kx s6 wr => ∃ x : Int, s6 = .int .i64 x ∧ 0 ≤ x ∧ A = x + kx ∧ wr = w)
          case atStart => exact ⟨st, rfl, st0, by omega, rfl⟩
          case round =>
            obtain ⟨x, rfl, x0, hk, rfl⟩ := hrel
            by_cases hx : x < A
            · have hc := HF.out x x0 (by omega)
              rw [decide_eq_false (show ¬ A ≤ x by omega), Bool.false_and] at hc
              have HC := Lib.hid hc
              clear hc
              go_wp2_with (go_at_call 32; (with_reducible refine (HC.out _).mono ?_); rintro e wx ⟨rfl, hwx⟩; have hwx := hwx.symm; subst hwx)
              go_roundg (A - (x + 1)).toNat
              case measure => omega
              case rel => exact ⟨x + 1, rfl, by omega, by omega, rfl⟩
            · obtain rfl : x = A := by omega
              clear hk hx hst htt es
              have hc := HF.out x x0 (by omega)
              rw [decide_eq_true (Int.le_refl x), decide_eq_true l1, Bool.true_and] at hc
              have HC := Lib.hid hc
              clear hc
              go_wp2_with (go_at_call 32; (with_reducible refine (HC.out _).mono ?_); rintro e wx ⟨rfl, hwx⟩; have hwx := hwx.symm; subst hwx)
              go_loopg [7] (B - tt).toNat (fun kx s7 wr' => ∃ y : Int, s7 = .int .i64 y ∧ x ≤ y ∧ B = y + kx ∧ wr' = wr)
              case atStart => exact ⟨tt, rfl, tt0, by omega, rfl⟩
              case round =>
                obtain ⟨y, rfl, y0, hk2, rfl⟩ := hrel
                have hc := HF.out (y + 1) (by omega) (by omega)
                by_cases hy : y < B
                · rw [decide_eq_true (show x ≤ y + 1 by omega), decide_eq_true (show y + 1 ≤ B by omega), Bool.true_and] at hc
                  have HC2 := Lib.hid hc
                  clear hc
                  go_wp2_with (go_at_call 32; (with_reducible refine (HC2.out _).mono ?_); rintro e wx ⟨rfl, hwx⟩; have hwx := hwx.symm; subst hwx)
                  go_roundg (B - (y + 1)).toNat
                  case measure => omega
                  case rel => exact ⟨y + 1, rfl, by omega, by omega, rfl⟩
                · obtain rfl : y = B := by omega
                  clear hk2 hy
                  rw [decide_eq_false (show ¬ y + 1 ≤ y by omega), Bool.and_false] at hc
                  have HC2 := Lib.hid hc
                  clear hc
                  go_wp2_with (go_at_call 32; (with_reducible refine (HC2.out _).mono ?_); rintro e wx ⟨rfl, hwx⟩; have hwx := hwx.symm; subst hwx)
                  go_ret2
                  exact ⟨rfl, rfl⟩
        · skip
          have e : spreadS d n = (0, 0) := if_neg (by omega)
          rw [e]
          clear e
          go_enter Try.func12, Try.ntmps12
          go_wp2
          go_ret2
          exact ⟨rfl, rfl⟩
      · skip
        have e : spreadS d n = (0, 0) := if_neg (by omega)
        rw [e]
        clear e
        go_enter Try.func12, Try.ntmps12
        go_wp2
        go_ret2
        exact ⟨rfl, rfl⟩
    · skip
      have e : spreadS d n = (0, 0) := if_neg (by omega)
      rw [e]
      clear e
      go_enter Try.func12, Try.ntmps12
      go_wp2
      go_ret2
      exact ⟨rfl, rfl⟩
  · skip
    have e : spreadS d n = (0, 0) := if_neg (by omega)
    rw [e]
    clear e
    go_enter Try.func12, Try.ntmps12
    go_wp2
    go_ret2
    exact ⟨rfl, rfl⟩
end Go.Proofs.Ytjhcdkllneeijaa
