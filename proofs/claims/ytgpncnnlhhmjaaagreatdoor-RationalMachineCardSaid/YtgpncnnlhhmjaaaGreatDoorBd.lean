/- Bounds of digits, and the laws' arithmetic. -/
import Derived.Test.YtgpncnnlhhmjaaaGreatDoorRt0
import Derived.Test.YtgpncnnlhhmjaaaGreatDoorUse
namespace Go.Proofs.YtgpncnnlhhmjaaaGreatDoor
open Go.RowKit

def intOk (a : ByteArray) : Bool := validB a.data.toList && in64 (numB a)
def intN (a : ByteArray) : Int := if intOk a then numB a else 0
def intE (a : ByteArray) : Int := if intOk a then 0 else 30
/-- At most k digits. -/
def Bd (z : Int) (k : Nat) : Prop := z.natAbs < 10 ^ k
theorem Bd.more {z : Int} {k m : Nat} (h : Bd z k) (hk : k ≤ m) : Bd z m := Nat.lt_of_lt_of_le h (Nat.pow_le_pow_right (by decide) hk)
theorem Bd.fits {z : Int} {k : Nat} (h : Bd z k) (hk : k ≤ 200) : fits z = true := by
  simp only [Proofs.YtgpncnnlhhmjaaaGreatDoor.fits, decide_eq_true_eq]
  exact h.more hk
theorem Bd.of_le {z y : Int} {k : Nat} (h : Bd y k) (hz : z.natAbs ≤ y.natAbs) : Bd z k := Nat.lt_of_le_of_lt hz h
theorem Bd.neg {z : Int} {k : Nat} (h : Bd z k) : Bd (-z) k := h.of_le (by omega)
theorem Bd.mul {y z : Int} {k m : Nat} (hy : Bd y k) (hz : Bd z m) : Bd (y * z) (k + m) := by
  unfold Bd at *
  rw [Int.natAbs_mul, Nat.pow_add]
  exact Nat.mul_lt_mul'' hy hz
theorem Bd.add {y z : Int} {k : Nat} (hy : Bd y k) (hz : Bd z k) : Bd (y + z) (k + 1) := by
  unfold Bd at *
  rw [Nat.pow_succ]
  have := Nat.pow_pos (n := k) (show 0 < 10 by decide)
  omega
theorem Bd.sub {y z : Int} {k : Nat} (hy : Bd y k) (hz : Bd z k) : Bd (y - z) (k + 1) := by rw [Int.sub_eq_add_neg]; exact hy.add hz.neg
theorem bd_one : Bd 1 1 := by unfold Bd; decide
theorem bd_zero (k : Nat) : Bd 0 k := by unfold Bd; exact Nat.pow_pos (by decide)
theorem dec_ne {x y : Int} (h : x ≠ y) : dec x ≠ dec y := fun e => h (dec_inj e)
theorem cmp_lt {x y : Int} (h : x < y) : (-1 : Int) = cmpI x y := by rw [cmpI, if_pos h]
theorem cmp_gt {x y : Int} (h : y < x) : (1 : Int) = cmpI x y := by rw [cmpI, if_neg (by omega), if_pos h]
theorem cmp_eq {x y : Int} (h : x = y) : (0 : Int) = cmpI x y := by rw [cmpI, if_neg (by omega), if_neg (by omega)]
theorem ediv_bd {x y : Int} {k : Nat} (h : Bd x k) : Bd (x / y) k := by
  rcases Int.le_total 0 x with h0 | h0
  · refine h.of_le ?_
    exact Int.natAbs_ediv_le_natAbs x y
  · exact h.of_le (Int.natAbs_ediv_le_natAbs x y)
theorem emod_bd {x y : Int} {k : Nat} (h : Bd y k) (hy : y ≠ 0) : Bd (x % y) k := by
  refine h.of_le ?_
  have h1 := Int.emod_nonneg x hy
  have h2 := Int.emod_lt x hy
  omega
theorem cmp_ge {x y : Int} (h : y ≤ x) : 0 ≤ cmpI x y := by
  rw [cmpI, if_neg (by omega)]
  split <;> omega
theorem cmp_le {x y : Int} (h : x ≤ y) : cmpI x y ≤ 0 := by
  rw [cmpI]
  split
  · omega
  · rw [if_neg (by omega)]; omega
theorem div_zero' {a b : ByteArray} {x : Int} (ha : a = dec x) (hb : b = dec 0) (w : World) (ht : Tab w) :
    Calls Tryz.prog 50 #[.string a, .string b] w fun e w' => e = .returned (.tuple #[.string ⟨#[]⟩, .string ⟨#[]⟩, .int .i64 30]) ∧ Below w.heap.size w w' := div_zero ha hb w ht
theorem ne_list {X Y : ByteArray} (h : ¬ X = Y) : (X.toList == Y.toList) = false := by
  rw [beq_eq_false_iff_ne]
  exact fun e => h (by rw [ByteArray.toList_eq, ByteArray.toList_eq] at e; exact ByteArray.ext (Array.toList_inj.1 e))
theorem ne_zero {X : ByteArray} (h : ¬ X = ⟨#[48]⟩) : (X.toList == [48]) = false := by
  have := ne_list h
  simpa [ByteArray.toList_eq] using this
theorem mul_self_nn (x : Int) : 0 ≤ x * x := by
  have := Int.natAbs_mul_self (a := x)
  omega
theorem rt_sq (n : Nat) : rt (n * n) = n := (rt_unique (Nat.le_refl _) (by rw [Nat.add_mul, Nat.mul_add]; omega)).symm
theorem rt_neg {x : Int} {n : Nat} (hx : x < 0) (hn : x * x = (n : Int)) : -x = (rt n : Int) := by
  have h1 : n = x.natAbs * x.natAbs := by have := Int.natAbs_mul x x; rw [hn] at this; simpa using this
  rw [h1, rt_sq]
  omega
theorem gcd_bd {x y : Int} {k : Nat} (hx : Bd x k) (hy : Bd y k) : Bd (Int.gcd x y : Int) k := by
  unfold Bd at *
  rw [Int.natAbs_natCast, Int.gcd]
  rcases Nat.eq_zero_or_pos x.natAbs with h | h
  · rw [h, Nat.gcd_zero_left]; exact hy
  · exact Nat.lt_of_le_of_lt (Nat.gcd_le_left _ h) hx
theorem gcd_left {x y : Int} (h : 0 < Int.gcd x y) : (1 : Int) = (Int.gcd (x / (Int.gcd x y : Int)) (y / (Int.gcd x y : Int)) : Int) := by
  rw [Int.gcd_ediv_gcd_ediv_gcd h]; rfl
theorem gcd_abs_pos {z : Int} (n : Nat) (h : 0 ≤ z) : (n : Int) * z = ((n * z.natAbs : Nat) : Int) := by
  rw [Int.natCast_mul, Int.natAbs_of_nonneg h]
theorem gcd_abs_neg {z : Int} (n : Nat) (h : z < 0) : 0 - (n : Int) * z = ((n * z.natAbs : Nat) : Int) := by
  rw [Int.natCast_mul, show ((z.natAbs : Nat) : Int) = -z by omega, Int.mul_neg]; omega
end Go.Proofs.YtgpncnnlhhmjaaaGreatDoor
