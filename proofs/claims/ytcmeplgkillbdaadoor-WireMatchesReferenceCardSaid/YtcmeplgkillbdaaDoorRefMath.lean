/- Plain mathematics for the reference implementation: an encoding that ends is the one of its number exactly if it has no superfluous group. No program is named here. -/
import Derived.Test.YtcmeplgkillbdaaDoorMath
import Derived.Test.YtcmeplgkillbdaaDoorBurst
namespace Go.Proofs.YtcmeplgkillbdaaDoor

theorem unz_range {z : Nat} (h : z < 9223372036854775808) : (unz z < -maxInt ∨ maxInt < unz z) ↔ 9223372036854775806 < z := by
  unfold unz maxInt; split <;> omega

/-- Where i + 1 groups have the value z: they are accepted exactly if they are the encoding of z. -/
theorem ung_iff (l : List UInt8) (i z : Nat) (hz : z < 9223372036854775808) (hi : i + 1 ≤ l.length) : ung 9 0 0 l = some (z, i + 1) ↔ l.take (i + 1) = leb z := by
  constructor
  · intro hs
    obtain ⟨v, k, h1, h2, h3, h4, h5, h6, h7, _⟩ := ung_some 9 0 0 l z (i + 1) hs
    simp only [Nat.mul_zero, Nat.pow_zero, Nat.mul_one, Nat.zero_add] at h6 h1
    subst h6 h1
    rw [h4, leb9 hz]
  · intro hs
    rw [leb9 hz] at hs
    have hl : (lebF 9 z).length = i + 1 := by rw [← hs, List.length_take]; omega
    have hr := (List.take_append_drop (i + 1) l).symm
    rw [hs] at hr
    have hu := ung_leb 9 0 z 0 (l.drop (i + 1)) (by omega) (by rw [pow9]; exact hz) (fun _ => rfl)
    rw [← hr] at hu
    rw [hu, hl]
    simp
theorem S1_nat (r : Nat) (h : r < 4294967296) : (S1 (BitVec.ofNat 32 r)).toNat = if r % 2 = 1 then r / 2 ^^^ 2197175160 else r / 2 := by
  rw [S1_eq, BitVec.toNat_xor, BitVec.toNat_ushiftRight, BitVec.toNat_ofNat, Nat.mod_eq_of_lt h, Nat.shiftRight_eq_div_pow]
  have e : (BitVec.ofNat 32 r).getLsbD 0 = decide (r % 2 = 1) := by
    rw [BitVec.getLsbD_ofNat, Nat.testBit_zero]
    simp
  rw [e]
  by_cases hr : r % 2 = 1
  · rw [if_pos hr]; simp [P1, hr]
  · rw [if_neg hr]; simp [P1, hr]
end Go.Proofs.YtcmeplgkillbdaaDoor
