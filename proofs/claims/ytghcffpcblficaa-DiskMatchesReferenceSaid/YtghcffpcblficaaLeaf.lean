/- ready, has, Size, Pending, cutAfter, wrote, restart: what they return and what they write. -/
import Derived.Test.YtghcffpcblficaaMem
namespace Go.Proofs.Ytghcffpcblficaa
open Go.RowKit

theorem ready_nil (w : World) : Calls Try.prog 28 #[.pointer none] w fun e w' => e = .returned (.int .i64 1) ∧ w' = w := by
  go_enter Try.func28, Try.ntmps28
  go_wp2
  go_ret
  exact ⟨rfl, rfl⟩
theorem ready_yes (g : Nat) (w : World) (hc : w.cell? ⟨g, 0, none⟩ = some (.bool true)) : Calls Try.prog 28 #[.pointer (some ⟨g, 0, none⟩)] w fun e w' => e = .returned (.int .i64 91) ∧ w' = w := by
  go_enter Try.func28, Try.ntmps28
  go_wp2
  go_ret
  exact ⟨rfl, rfl⟩
theorem ready_no (g : Nat) (w : World) (hc : w.cell? ⟨g, 0, none⟩ = some (.bool false)) : Calls Try.prog 28 #[.pointer (some ⟨g, 0, none⟩)] w fun e w' => e = .returned (.int .i64 0) ∧ w' = w := by
  go_enter Try.func28, Try.ntmps28
  go_wp2
  go_ret
  exact ⟨rfl, rfl⟩
theorem size_nil (w : World) : Calls Try.prog 16 #[.pointer none] w fun e w' => e = .returned (.int .i64 0) ∧ w' = w := by
  go_enter Try.func16, Try.ntmps16
  go_wp2
  go_ret
  exact ⟨rfl, rfl⟩
theorem size_cell (g n c : Nat) (A : Option Addr) (w : World) (hc : w.cell? ⟨g, 3, none⟩ = some (.slice A n c)) : Calls Try.prog 16 #[.pointer (some ⟨g, 0, none⟩)] w fun e w' => e = .returned (.int .i64 n) ∧ w' = w := by
  go_enter Try.func16, Try.ntmps16
  go_wp2
  go_ret
  exact ⟨rfl, rfl⟩
theorem pending_nil (w : World) : Calls Try.prog 17 #[.pointer none] w fun e w' => e = .returned (.int .i64 0) ∧ w' = w := by
  go_enter Try.func17, Try.ntmps17
  go_wp2
  go_ret
  exact ⟨rfl, rfl⟩
theorem pending_cell (g n c : Nat) (A : Option Addr) (w : World) (hc : w.cell? ⟨g, 4, none⟩ = some (.slice A n c)) : Calls Try.prog 17 #[.pointer (some ⟨g, 0, none⟩)] w fun e w' => e = .returned (.int .i64 n) ∧ w' = w := by
  go_enter Try.func17, Try.ntmps17
  go_wp2
  go_ret
  exact ⟨rfl, rfl⟩
set_option maxRecDepth 100000 in
theorem has_any (A : Option Addr) (n c : Nat) (off k : Int) (hn : n ≤ 9223372036854775807) (h1 : -9223372036854775808 ≤ off) (h2 : off ≤ 9223372036854775807) (w : World) : Calls Try.prog 29 #[.slice A n c, .int .i64 off, .int .i64 k] w fun e w' => e = .returned (.bool (hasB n off k)) ∧ w' = w := by
  unfold hasB
  by_cases h3 : 0 ≤ off
  · by_cases h4 : 0 ≤ k
    · by_cases h5 : k ≤ n - off
      · go_enter Try.func29, Try.ntmps29
        go_wp2
        go_ret
        exact ⟨by simp [h3, h4, h5], rfl⟩
      · have h6 : decide (k ≤ n - off) = false := decide_eq_false h5
        go_enter Try.func29, Try.ntmps29
        go_wp2
        go_ret
        exact ⟨by simp [h5], rfl⟩
    · have h6 : decide (0 ≤ k) = false := decide_eq_false h4
      go_enter Try.func29, Try.ntmps29
      go_wp2
      go_ret
      exact ⟨by simp [h4], rfl⟩
  · have h6 : decide (0 ≤ off) = false := decide_eq_false h3
    go_enter Try.func29, Try.ntmps29
    go_wp2
    go_ret
    exact ⟨by simp [h3], rfl⟩
/-- The two cells of the power. -/
def pwr (w : World) (g : Nat) (lost : Bool) (left : Nat) : World := (w.setCell ⟨g, 0, none⟩ (.bool lost)).setCell ⟨g, 1, none⟩ (.int .i64 left)
theorem pwr_row {w : World} {g : Nat} {t : TypeId} {l0 l1 x y z : Value} (h : Row w g t #[l0, l1, x, y, z]) (lost : Bool) (left : Nat) : Row (pwr w g lost left) g t #[.bool lost, .int .i64 left, x, y, z] := (h.stored 0 _).stored 1 _
set_option maxRecDepth 100000 in
theorem cutAfter_any (g n : Nat) (hn : n ≤ 9223372036854775807) (l0 l1 : Value) (w : World) (h0 : w.cell? ⟨g, 0, none⟩ = some l0) (h1 : w.cell? ⟨g, 1, none⟩ = some l1) (f0 : w.frozen? ⟨g, 0, none⟩ = false) (f1 : w.frozen? ⟨g, 1, none⟩ = false) :
    Calls Try.prog 39 #[.pointer (some ⟨g, 0, none⟩), .int .i64 n] w fun e w' => e = .returned (.tuple #[]) ∧ w' = pwr w g ((n : Int) == 0) n := by
  go_enter Try.func39, Try.ntmps39
  go_wp2
  go_end0
  exact ⟨rfl, rfl⟩
set_option maxRecDepth 100000 in
theorem restart_any (g : Nat) (l0 l1 : Value) (w : World) (h0 : w.cell? ⟨g, 0, none⟩ = some l0) (h1 : w.cell? ⟨g, 1, none⟩ = some l1) (f0 : w.frozen? ⟨g, 0, none⟩ = false) (f1 : w.frozen? ⟨g, 1, none⟩ = false) :
    Calls Try.prog 42 #[.pointer (some ⟨g, 0, none⟩)] w fun e w' => e = .returned (.tuple #[]) ∧ w' = pwr w g false 0 := by
  go_enter Try.func42, Try.ntmps42
  go_wp2
  go_end0
  exact ⟨rfl, rfl⟩
end Go.Proofs.Ytghcffpcblficaa
