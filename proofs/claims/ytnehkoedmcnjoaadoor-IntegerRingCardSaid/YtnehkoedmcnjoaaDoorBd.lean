/- Bounds of digits, and the laws' arithmetic. -/
import Derived.Test.YtnehkoedmcnjoaaDoorMade
import Derived.Test.YtnehkoedmcnjoaaDoorUse
namespace Go.Proofs.YtnehkoedmcnjoaaDoor
open Go.RowKit

/-- At most k digits. -/
def Bd (z : Int) (k : Nat) : Prop := z.natAbs < 10 ^ k
theorem Bd.more {z : Int} {k m : Nat} (h : Bd z k) (hk : k ≤ m) : Bd z m := Nat.lt_of_lt_of_le h (Nat.pow_le_pow_right (by decide) hk)
theorem Bd.fits {z : Int} {k : Nat} (h : Bd z k) (hk : k ≤ 200) : fits z = true := by
  simp only [Proofs.YtnehkoedmcnjoaaDoor.fits, decide_eq_true_eq]
  exact h.more hk
theorem Bd.of_le {z y : Int} {k : Nat} (h : Bd y k) (hz : z.natAbs ≤ y.natAbs) : Bd z k := Nat.lt_of_le_of_lt hz h
theorem Bd.neg {z : Int} {k : Nat} (h : Bd z k) : Bd (-z) k := h.of_le (by omega)
theorem Bd.mul {y z : Int} {k m : Nat} (hy : Bd y k) (hz : Bd z m) : Bd (y * z) (k + m) := by
  unfold Bd at *
  rw [Int.natAbs_mul, Nat.pow_add]
  exact Nat.mul_lt_mul'' hy hz
theorem Bd.add {y z : Int} {k : Nat} (hy : Bd y k) (hz : Bd z k) : Bd (y + z) (k + 1) := by
  unfold Bd at *
  rw [Nat.pow_succ]
  have := Nat.pow_pos (n := k) (show 0 < 10 by decide)
  omega
theorem Bd.sub {y z : Int} {k : Nat} (hy : Bd y k) (hz : Bd z k) : Bd (y - z) (k + 1) := by rw [Int.sub_eq_add_neg]; exact hy.add hz.neg
theorem bd_one : Bd 1 1 := by unfold Bd; decide
theorem bd_zero (k : Nat) : Bd 0 k := by unfold Bd; exact Nat.pow_pos (by decide)
theorem made_at {a : ByteArray} {M : Nat} {X : ByteArray} {m : Int} (hX : X = dec (madeZ a M)) (hm : m = (M : Int)) (hM : M ≤ 200) (w : World) :
    Calls Tryd.prog 20 #[.string a, .int .i64 m] w fun e w' => e = .returned (.string X) ∧ Below w.heap.size w w' := by
  subst hX hm
  exact made_any a M hM w
theorem made_bd (a : ByteArray) (M : Nat) : Bd (madeZ a M) M := madeZ_lt a M
theorem dec_ne {x y : Int} (h : x ≠ y) : dec x ≠ dec y := fun e => h (dec_inj e)
theorem cmp_lt {x y : Int} (h : x < y) : (-1 : Int) = cmpI x y := by rw [cmpI, if_pos h]
theorem cmp_gt {x y : Int} (h : y < x) : (1 : Int) = cmpI x y := by rw [cmpI, if_neg (by omega), if_pos h]
theorem cmp_eq {x y : Int} (h : x = y) : (0 : Int) = cmpI x y := by rw [cmpI, if_neg (by omega), if_neg (by omega)]
theorem ediv_bd {x y : Int} {k : Nat} (h : Bd x k) : Bd (x / y) k := by
  rcases Int.le_total 0 x with h0 | h0
  · refine h.of_le ?_
    exact Int.natAbs_ediv_le_natAbs x y
  · exact h.of_le (Int.natAbs_ediv_le_natAbs x y)
theorem emod_bd {x y : Int} {k : Nat} (h : Bd y k) (hy : y ≠ 0) : Bd (x % y) k := by
  refine h.of_le ?_
  have h1 := Int.emod_nonneg x hy
  have h2 := Int.emod_lt x hy
  omega
end Go.Proofs.YtnehkoedmcnjoaaDoor
