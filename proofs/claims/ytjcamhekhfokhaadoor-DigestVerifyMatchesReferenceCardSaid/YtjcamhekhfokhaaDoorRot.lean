/- Contracts of the words' functions: RotateLeft32, right, rotated. -/
import Derived.Test.YtjcamhekhfokhaaDoorRows
import Derived.Test.YtjcamhekhfokhaaDoorSha
import Derived.WalkKit
import Derived.WalkSpells
import Derived.WalkLawsBesides
import Derived.Outline
import Derived.Lib.Hide
import Derived.IntWalk
import Derived.BigQuiet
import Derived.Deep.QuietTactic
import Derived.RegionTactic
namespace Go.Proofs.YtjcamhekhfokhaaDoor
open Go.RowKit

theorem ret_u32 {a b : Int} (h : a = b) : Ending.returned (.int .u32 a) = .returned (.int .u32 b) := by rw [h]
theorem u32_or_eq {a b : Nat} (ha : a < 4294967296) (hb : b < 4294967296) : bits .or .u32 (a : Int) (b : Int) = ((a ||| b : Nat) : Int) := u32_or_nat a b ha hb
theorem shl_cast (x n : Nat) : ((x : Int) * 2 ^ n % 4294967296) = ((x * 2 ^ n % 4294967296 : Nat) : Int) := by
  rw [Int.natCast_emod, Int.natCast_mul, Int.natCast_pow]; rfl
theorem shr_cast (x n : Nat) : ((x : Int) / 2 ^ n) = ((x / 2 ^ n : Nat) : Int) := by
  rw [Int.natCast_ediv, Int.natCast_pow]; rfl
theorem rot_bits (x m : Nat) (hx : x < 4294967296) : bits .or .u32 ((x : Int) * 2 ^ (32 - m) % 4294967296) ((x : Int) / 2 ^ m) = (rotr x m : Int) := by
  rw [shl_cast, shr_cast]
  exact u32_or_nat _ _ (Nat.mod_lt _ (by decide)) (Nat.lt_of_le_of_lt (Nat.div_le_self _ _) hx)
theorem rot_bits2 (x m : Nat) (hx : x < 4294967296) : bits .or .u32 ((x : Int) / 2 ^ m) ((x : Int) * 2 ^ (32 - m) % 4294967296) = (rotr x m : Int) := by
  rw [shl_cast, shr_cast, rotr, Nat.or_comm]
  exact u32_or_nat _ _ (Nat.lt_of_le_of_lt (Nat.div_le_self _ _) hx) (Nat.mod_lt _ (by decide))

theorem rotl_any (x m : Nat) (hx : x < 4294967296) (h1 : 1 ≤ m) (h2 : m ≤ 31) (w : World) :
    Calls Tryd.prog 66 #[.int .u32 (x : Int), .int .i64 (-(m : Int))] w fun e w' => e = .returned (.int .u32 (rotr x m : Int)) ∧ w = w' := by
  have hr := rot_bits x m hx
  obtain ⟨s, hs⟩ : ∃ s : Nat, s = 32 - m := ⟨_, rfl⟩
  have ha : bits .and .u64 (IntKind.u64.wrap (-(m : Int))) 31 = (s : Int) := by
    have e : IntKind.u64.wrap (-(m : Int)) = ((18446744073709551616 - m : Nat) : Int) := by rw [IntKind.wrap_u64]; omega
    have e2 : (31 : Int) = ((31 : Nat) : Int) := rfl
    rw [e, e2, u64_and_nat _ _ (by omega) (by decide), nat_mask5]; omega
  have hm : m = 32 - s := by omega
  have hs1 : s ≤ 31 := by omega
  rw [← hs] at hr
  have HR := Lib.hid hr; clear hr hs
  subst hm
  go_enter Tryd.func66, Tryd.ntmps66
  go_wp2
  go_ret
  refine ⟨ret_u32 ?_, rfl⟩
  have e2 : (32 - (s : Int)).toNat = 32 - s := by omega
  have H := HR.out
  try rw [e2]
  exact H
theorem right_any (x : Nat) (k : Int) (hx : x < 4294967296) (h1 : 1 ≤ k) (h2 : k ≤ 31) (w : World) :
    Calls Tryd.prog 63 #[.int .u32 (x : Int), .int .i64 k] w fun e w' => e = .returned (.int .u32 (rotr x k.toNat : Int)) ∧ w' = w := by
  obtain ⟨m, rfl⟩ := Int.eq_ofNat_of_zero_le (show 0 ≤ k by omega)
  go_enter Tryd.func63, Tryd.ntmps63
  go_wp2_with (go_at_call 66; refine (rotl_any x m hx (by omega) (by omega) _).mono ?_; rintro e w' ⟨rfl, rfl⟩)
  go_ret
  exact ⟨rfl, rfl⟩
theorem rotated_any (x : Nat) (k : Int) (hx : x < 4294967296) (h1 : 1 ≤ k) (h2 : k ≤ 31) (w : World) :
    Calls Tryd.prog 57 #[.int .u32 (x : Int), .int .i64 k] w fun e w' => e = .returned (.int .u32 (rotr x k.toNat : Int)) ∧ ∃ n, w' = w.drewN n := by
  have hr := rot_bits2 x k.toNat hx
  have HR := Lib.hid hr; clear hr
  go_enter Tryd.func57, Tryd.ntmps57
  go_wp2
  go_quiet (fail)
  go_wp2
  go_ret
  have e2 : (32 - k).toNat = 32 - k.toNat := by omega
  exact ⟨ret_u32 (by rw [e2]; exact HR.out), _, rfl⟩
end Go.Proofs.YtjcamhekhfokhaaDoor
