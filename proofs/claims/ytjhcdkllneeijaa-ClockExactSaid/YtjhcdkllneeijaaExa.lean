/- The walk of ClockExact. -/
import Derived.Test.YtjhcdkllneeijaaPick
import Derived.Test.YtjhcdkllneeijaaSp
import Derived.Deep.LoopGhost
namespace Go.Proofs.Ytjhcdkllneeijaa
open Go.RowKit

set_option maxRecDepth 100000 in
set_option maxHeartbeats 16000000 in
theorem exact_walk (drift more n0 m0 x : Int) (b0 : -9223372036854775808 ≤ drift ∧ drift ≤ 9223372036854775807) (b1 : -9223372036854775808 ≤ more ∧ more ≤ 9223372036854775807) (b2 : -9223372036854775808 ≤ n0 ∧ n0 ≤ 9223372036854775807) (b3 : -9223372036854775808 ≤ m0 ∧ m0 ≤ 9223372036854775807) (b4 : -9223372036854775808 ≤ x ∧ x ≤ 9223372036854775807) (w : World)
    (hsane : ∀ W : World, Calls Try.prog 10 #[] W fun e w' => e = .returned (.bool true) ∧ Below W.heap.size W w') :
    Calls Try.prog 5 #[.int .i64 drift, .int .i64 more, .int .i64 n0, .int .i64 m0, .int .i64 x] w fun e w' => e = .returned (.bool true) ∧ Below w.heap.size w w' := by
  have p1 := fun W => pick_any drift 101 b0.1 b0.2 (by omega) (by omega) W
  have r1 := pk_range (c := drift) (n := 101) (by omega)
  generalize pk drift 101 = d at *
  have p2 := fun W => pick_any n0 10000001 b2.1 b2.2 (by omega) (by omega) W
  have r2 := pk_range (c := n0) (n := 10000001) (by omega)
  generalize pk n0 10000001 = n at *
  have p3 := fun W => pick_any m0 (10000001 - n) b3.1 b3.2 (by omega) (by omega) W
  have r3 := pk_range (c := m0) (n := 10000001 - n) (by omega)
  generalize pk m0 (10000001 - n) = mm at *
  have p4 := fun W => pick_any x 20000000 b4.1 b4.2 (by omega) (by omega) W
  have r4 := pk_range (c := x) (n := 20000000) (by omega)
  generalize pk x 20000000 = px at *
  have d0 : 0 ≤ d := r1.1
  have d1 : d ≤ 100 := by omega
  have l0 := lo_nonneg (n := n) d0
  have l1 := lo_hi d0 d1 r2.1
  have l2 := hi_big d0 d1 r2.1 (show n ≤ 10000000 by omega)
  have p5 := fun W => pick_any x (hi d n - lo d n + 1) b4.1 b4.2 (by omega) (by omega) W
  have r5 := pk_range (c := x) (n := hi d n - lo d n + 1) (by omega)
  generalize pk x (hi d n - lo d n + 1) = py at *
  have p6 := fun W => pick_any more (101 - d) b1.1 b1.2 (by omega) (by omega) W
  have r6 := pk_range (c := more) (n := 101 - d) (by omega)
  generalize pk more (101 - d) = pm at *
  have s1 := fun W => spread_any d n W
  have s2 := fun W => spread_any 0 n W
  have s3 := fun W => spread_any d (n + mm) W
  have s4 := fun W => spread_any (d + pm) n W
  rw [spreadS, if_pos (by omega)] at s1 s2 s3 s4
  dsimp only at s1 s2 s3 s4
  rw [lo_zero n r2.1, hi_zero n] at s2
  have m1 := lo_mono d0 r2.1 (show n ≤ n + mm by omega)
  have m2 := hi_mono d1 (show n ≤ n + mm by omega)
  have m3 := lo_wide (n := n) d0 (show d ≤ d + pm by omega) r2.1
  have m4 := hi_wide (n := n) d0 (show d ≤ d + pm by omega) (by omega) r2.1
  have hfit : ∀ v : Int, 0 ≤ v → ((1000 - d) * v - 1000 < 1000 * n ∧ 1000 * n < (1000 + d) * v + 1000 ↔ lo d n ≤ v ∧ v ≤ hi d n) := fun v hv => fits_iff d0 d1 r2.1 hv
  generalize lo d n = low at *
  generalize hi d n = high at *
  generalize lo d (n + mm) = later at *
  generalize hi d (n + mm) = fin at *
  generalize lo (d + pm) n = wide at *
  generalize hi (d + pm) n = far at *
  have HF := Lib.hid hfit; have P1 := Lib.hid p1; have P2 := Lib.hid p2; have P3 := Lib.hid p3; have P4 := Lib.hid p4; have P5 := Lib.hid p5; have P6 := Lib.hid p6
  have S1 := Lib.hid s1; have S2 := Lib.hid s2; have S3 := Lib.hid s3; have S4 := Lib.hid s4; have HS := Lib.hid hsane
  clear hfit p1 p2 p3 p4 p5 p6 s1 s2 s3 s4 hsane
  obtain ⟨r1a, r1b⟩ := r1; obtain ⟨r2a, r2b⟩ := r2; obtain ⟨r3a, r3b⟩ := r3; obtain ⟨r4a, r4b⟩ := r4; obtain ⟨r5a, r5b⟩ := r5; obtain ⟨r6a, r6b⟩ := r6
  go_enter Try.func5, Try.ntmps5
  go_wp2_with (first
    | (go_at_call 10; (refine (HS.out _).mono ?_); rintro e w1 ⟨rfl, hb1⟩; have B1 := Lib.hid hb1; clear hb1)
    | (go_at_call 19; (first | (with_reducible refine (P1.out _).mono ?_) | (with_reducible refine (P2.out _).mono ?_) | (with_reducible refine (P3.out _).mono ?_) | (with_reducible refine (P4.out _).mono ?_) | (with_reducible refine (P5.out _).mono ?_) | (with_reducible refine (P6.out _).mono ?_)); rintro e wx ⟨rfl, hwx⟩; have hwx := hwx.symm; subst hwx)
    | (go_at_call 11; (first | (with_reducible refine (S1.out _).mono ?_) | (with_reducible refine (S2.out _).mono ?_) | (with_reducible refine (S3.out _).mono ?_) | (with_reducible refine (S4.out _).mono ?_)); rintro e wx ⟨rfl, hwx⟩; have hwx := hwx.symm; subst hwx))
  obtain ⟨W2, hW2⟩ : ∃ W2, W2 = w1.alloc (Obj.cells #[Value.int IntKind.i64 (low - 1), Value.int IntKind.i64 low, Value.int IntKind.i64 high, Value.int IntKind.i64 (high + 1), Value.int IntKind.i64 px, Value.int IntKind.i64 (low + py)] 3) := ⟨_, rfl⟩
  rw [← hW2]
  have q : Row W2 w1.heap.size 3 #[Value.int IntKind.i64 (low - 1), Value.int IntKind.i64 low, Value.int IntKind.i64 high, Value.int IntKind.i64 (high + 1), Value.int IntKind.i64 px, Value.int IntKind.i64 (low + py)] := by rw [hW2]; exact Row.made _ _ _
  have B2 := Lib.hid (show Below w.heap.size w W2 by rw [hW2]; exact keep_alloc B1.out _)
  have hcell : ∀ k : Nat, k < 6 → ∃ v : Int, W2.cell? ⟨w1.heap.size, k, none⟩ = some (.int .i64 v) ∧ -1 ≤ v ∧ v ≤ 40000000 := by
    intro k hk
    match k, hk with
    | 0, _ => exact ⟨_, q.at rfl, by omega, by omega⟩
    | 1, _ => exact ⟨_, q.at rfl, by omega, by omega⟩
    | 2, _ => exact ⟨_, q.at rfl, by omega, by omega⟩
    | 3, _ => exact ⟨_, q.at rfl, by omega, by omega⟩
    | 4, _ => exact ⟨_, q.at rfl, by omega, by omega⟩
    | 5, _ => exact ⟨_, q.at rfl, by omega, by omega⟩
  have HC := Lib.hid hcell
  clear hcell q hW2
  go_loopg [16, 17] 6 (fun kx s16 s17 wr => ∃ (k : Nat), s16 = .int .i64 (k : Int) ∧ k + kx = 6 ∧ wr = W2)
  case atStart => exact ⟨0, rfl, rfl, rfl⟩
  case round =>
    obtain ⟨k, rfl, hk, rfl⟩ := hrel
    by_cases hlt : k < 6
    · obtain ⟨v, e0, v0, v1⟩ := HC.out k hlt
      by_cases c0 : 0 ≤ v
      · have hf := HF.out v c0
        have z1 := Int.mul_nonneg (show 0 ≤ 1000 - d by omega) c0
        have z2 := Int.mul_nonneg (show 0 ≤ 1000 + d by omega) c0
        have z3 := Int.mul_le_mul_of_nonneg_right (show 1000 - d ≤ 1000 by omega) c0
        have z4 := Int.mul_le_mul_of_nonneg_right (show 1000 + d ≤ 1100 by omega) c0
        by_cases c1 : (1000 - d) * v - 1000 < 1000 * n
        · by_cases c2 : 1000 * n < (1000 + d) * v + 1000
          · obtain ⟨i1, i2⟩ := hf.1 ⟨c1, c2⟩
            have k1 : decide (low ≤ v) = true := decide_eq_true i1
            have k2 : decide (v ≤ high) = true := decide_eq_true i2
            clear hf
            go_wp2
            go_roundg (6 - (k + 1))
            case measure => omega
            case rel => exact ⟨k + 1, by go_num, by omega, rfl⟩
          · have hn : ¬ (low ≤ v ∧ v ≤ high) := fun h => c2 (hf.2 h).2
            clear hf
            by_cases k1 : low ≤ v
            · have k2 : decide (v ≤ high) = false := decide_eq_false (fun h => hn ⟨k1, h⟩)
              clear hn
              go_wp2
              go_roundg (6 - (k + 1))
              case measure => omega
              case rel => exact ⟨k + 1, by go_num, by omega, rfl⟩
            · clear hn
              go_wp2
              go_roundg (6 - (k + 1))
              case measure => omega
              case rel => exact ⟨k + 1, by go_num, by omega, rfl⟩
        · have hn : ¬ (low ≤ v ∧ v ≤ high) := fun h => c1 (hf.2 h).1
          clear hf
          by_cases k1 : low ≤ v
          · have k2 : decide (v ≤ high) = false := decide_eq_false (fun h => hn ⟨k1, h⟩)
            clear hn
            go_wp2
            go_roundg (6 - (k + 1))
            case measure => omega
            case rel => exact ⟨k + 1, by go_num, by omega, rfl⟩
          · clear hn
            go_wp2
            go_roundg (6 - (k + 1))
            case measure => omega
            case rel => exact ⟨k + 1, by go_num, by omega, rfl⟩
      · have k1 : decide (low ≤ v) = false := decide_eq_false (by omega)
        go_wp2
        go_roundg (6 - (k + 1))
        case measure => omega
        case rel => exact ⟨k + 1, by go_num, by omega, rfl⟩
    · obtain rfl : k = 6 := by omega
      go_wp2_with (first | (go_at_call 19; (with_reducible refine (P6.out _).mono ?_); rintro e wx ⟨rfl, hwx⟩; have hwx := hwx.symm; subst hwx) | (go_at_call 11; (first | (with_reducible refine (S2.out _).mono ?_) | (with_reducible refine (S3.out _).mono ?_) | (with_reducible refine (S4.out _).mono ?_)); rintro e wx ⟨rfl, hwx⟩; have hwx := hwx.symm; subst hwx))
      go_ret
      exact ⟨rfl, B2.out⟩
end Go.Proofs.Ytjhcdkllneeijaa
