/- within, isVariable, isBound, less: what they return. -/
import Derived.Test.YtkeimfkaoianmaaMem
namespace Go.Proofs.Ytkeimfkaoianmaa
open Go.RowKit

def inB (l x : Int) : Bool := decide (-l ≤ x) && decide (x ≤ l)
theorem inB_iff {l x : Int} : inB l x = true ↔ -l ≤ x ∧ x ≤ l := by simp [inB]
def varB (n u : Int) : Bool := decide (0 ≤ u) && decide (u < n)
theorem varB_iff {n u : Int} : varB n u = true ↔ 0 ≤ u ∧ u < n := by simp [varB]
def bndB (n : Int) (c : Bn) : Bool := varB n c.1 && varB n c.2.1 && inB 1000000000 c.2.2

set_option maxRecDepth 100000 in
theorem within_any (x l : Int) (l0 : 0 ≤ l) (l1 : l ≤ 1000000000000) (w : World) : Calls Try.prog 51 #[.int .i64 x, .int .i64 l] w fun e w' => e = .returned (.bool (inB l x)) ∧ w' = w := by
  unfold inB
  by_cases h1 : -l ≤ x
  · by_cases h2 : x ≤ l
    · go_enter Try.func51, Try.ntmps51
      go_wp2
      go_ret
      exact ⟨by simp [h1, h2], rfl⟩
    · go_enter Try.func51, Try.ntmps51
      go_wp2
      go_ret
      exact ⟨by simp [h2], rfl⟩
  · have h3 : decide (-l ≤ x) = false := decide_eq_false h1
    go_enter Try.func51, Try.ntmps51
    go_wp2
    go_ret
    exact ⟨rfl, rfl⟩

set_option maxRecDepth 100000 in
theorem isVariable_any (N : Int) (A : Option Addr) (n c : Nat) (u : Int) (w : World) : Calls Try.prog 58 #[btw N A n c, .int .i64 u] w fun e w' => e = .returned (.bool (varB N u)) ∧ Below w.heap.size w w' := by
  unfold varB btw
  by_cases h1 : 0 ≤ u
  · by_cases h2 : u < N
    · go_enter Try.func58, Try.ntmps58
      go_wp2
      go_ret
      exact ⟨by simp [h1, h2], below_alloc _ _⟩
    · go_enter Try.func58, Try.ntmps58
      go_wp2
      go_ret
      exact ⟨by simp [h2], below_alloc _ _⟩
  · have h3 : decide (0 ≤ u) = false := decide_eq_false h1
    go_enter Try.func58, Try.ntmps58
    go_wp2
    go_ret
    exact ⟨rfl, below_alloc _ _⟩

set_option maxRecDepth 100000 in
theorem less_any (u : Int) (w : World) : Calls Try.prog 44 #[.int .i64 u] w fun e w' => e = .returned (bnd (u, u, -1)) ∧ Below w.heap.size w w' := by
  unfold bnd
  go_enter Try.func44, Try.ntmps44
  go_wp2
  refine bodyPost_ret (v := .agg #[.int .i64 u, .int .i64 u, .int .i64 (-1)]) (by simp [results, Try.results44, go_sem]) rfl ⟨rfl, ?_⟩
  exact below_alloc _ _

set_option maxRecDepth 100000 in
set_option maxHeartbeats 1000000 in
theorem isBound_any (N : Int) (A : Option Addr) (n c : Nat) (x : Bn) (w : World) : Calls Try.prog 48 #[btw N A n c, bnd x] w fun e w' => e = .returned (.bool (bndB N x)) ∧ Below w.heap.size w w' := by
  obtain ⟨f, t, m⟩ := x
  unfold bndB
  dsimp only
  have v1 := fun W => isVariable_any N A n c f W
  have v2 := fun W => isVariable_any N A n c t W
  have v3 := fun W => within_any m 1000000000 (by omega) (by omega) W
  generalize varB N f = b1 at *
  generalize varB N t = b2 at *
  generalize inB 1000000000 m = b3 at *
  have V1 := Lib.hid v1; have V2 := Lib.hid v2; have V3 := Lib.hid v3
  clear v1 v2 v3
  unfold btw bnd at *
  cases b1
  · go_enter Try.func48, Try.ntmps48
    go_wp2_with (first
      | (go_at_call 58; (with_reducible refine (V1.out _).mono ?_); rintro e w2 ⟨rfl, b2⟩; have B2 := Lib.hid (below_step (keep_alloc (below_alloc _ _) _) b2); clear b2))
    go_ret
    exact ⟨rfl, B2.out⟩
  · cases b2
    · go_enter Try.func48, Try.ntmps48
      go_wp2_with (first
        | (go_at_call 58; (first | ((with_reducible refine (V1.out _).mono ?_); rintro e w2 ⟨rfl, b2⟩; have r2 := ((Row.made w 28 #[.int .i64 N, .slice A n c]).later _).step b2; have r3 := (Row.made_at _ 30 #[.int .i64 f, .int .i64 t, .int .i64 m] (World.size_alloc w _)).step b2; obtain ⟨k0, k1, _, _⟩ := r2.two; obtain ⟨m0, m1, m2, _, _, _⟩ := r3.three; have B2 := Lib.hid (below_step (keep_alloc (below_alloc _ _) _) b2); clear b2 r2 r3) | ((with_reducible refine (V2.out _).mono ?_); rintro e w3 ⟨rfl, b3⟩; have B3 := Lib.hid (below_step B2.out b3); clear b3))))
      go_ret
      exact ⟨rfl, B3.out⟩
    · go_enter Try.func48, Try.ntmps48
      go_wp2_with (first
        | (go_at_call 58; (first | ((with_reducible refine (V1.out _).mono ?_); rintro e w2 ⟨rfl, b2⟩; have r2 := ((Row.made w 28 #[.int .i64 N, .slice A n c]).later _).step b2; have r3 := (Row.made_at _ 30 #[.int .i64 f, .int .i64 t, .int .i64 m] (World.size_alloc w _)).step b2; have R3 := Lib.hid r3; obtain ⟨k0, k1, _, _⟩ := r2.two; obtain ⟨m0, m1, m2, _, _, _⟩ := r3.three; have B2 := Lib.hid (below_step (keep_alloc (below_alloc _ _) _) b2); clear b2 r2 r3) | ((with_reducible refine (V2.out _).mono ?_); rintro e w3 ⟨rfl, b3⟩; have r4 := R3.out.step b3; obtain ⟨n0, n1, n2, _, _, _⟩ := r4.three; have B3 := Lib.hid (below_step B2.out b3); clear b3 r4))) | (go_at_call 51; (with_reducible refine (V3.out _).mono ?_); rintro e wx ⟨rfl, hwx⟩; have hwx := hwx.symm; subst hwx))
      go_ret
      exact ⟨by simp, B3.out⟩
end Go.Proofs.Ytkeimfkaoianmaa
