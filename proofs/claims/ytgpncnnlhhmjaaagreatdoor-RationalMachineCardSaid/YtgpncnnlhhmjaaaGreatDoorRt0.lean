/- Trimming and writing nothing. -/
import Derived.Test.YtgpncnnlhhmjaaaGreatDoorRtx
namespace Go.Proofs.YtgpncnnlhhmjaaaGreatDoor
open Go.RowKit

theorem empty_of (s : ByteArray) (h : s.size = 0) : s = ⟨#[]⟩ := ByteArray.ext (Array.eq_empty_of_size_eq_zero h)
set_option maxRecDepth 100000 in
theorem trim0_any (A : Option Addr) (c : Nat) (w : World) : Calls Tryz.prog 100 #[.slice A (0 : Nat) c] w fun e w' => e = .returned (.slice A 0 c) ∧ w' = w := by
  go_enter Tryz.func100, Tryz.ntmps100
  go_wp2
  refine wp_loop_rounds 1 ?_
  rw [rounds_succ]
  go_wp2
  go_ret
  exact ⟨rfl, rfl⟩
set_option maxRecDepth 100000 in
theorem reftext0_any (b : Bool) (A : Option Addr) (c : Nat) (w : World) :
    Calls Tryz.prog 68 #[.bool b, .slice A (0 : Nat) c] w fun e w' => e = .returned (.tuple #[.string (dec (sgn b 0)), .bool true]) ∧ w' = w := by
  rw [dec_sgn0]
  go_enter Tryz.func68, Tryz.ntmps68
  go_wp2
  go_ret2
  exact ⟨rfl, rfl⟩
theorem byte_lt (s : ByteArray) (j : Nat) (h : j < s.size) : s[j].toNat < 256 := s[j].toNat_lt
end Go.Proofs.YtgpncnnlhhmjaaaGreatDoor
