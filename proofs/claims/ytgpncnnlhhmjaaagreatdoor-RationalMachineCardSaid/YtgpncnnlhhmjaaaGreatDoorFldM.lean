/- RationalField: what its calls hand back, at three fractions. No walk. -/
import Derived.Test.YtgpncnnlhhmjaaaGreatDoorFour
namespace Go.Proofs.YtgpncnnlhhmjaaaGreatDoor
open Go.RowKit

theorem addO_comm (a b : Rat) : addO (some a) (some b) = addO (some b) (some a) := by
  unfold addO
  dsimp only
  rw [Int.mul_comm (b.den : Int) a.den, Int.add_comm (b.num * a.den), Rat.add_comm b a]
  congr 1
  cases fits (a.num * b.den) <;> cases fits (b.num * a.den) <;> rfl
theorem mulO_comm (a b : Rat) : mulO (some a) (some b) = mulO (some b) (some a) := by
  unfold mulO
  dsimp only
  rw [Int.mul_comm b.num, Int.mul_comm (b.den : Int) a.den, Rat.mul_comm b a]
/-- Fractions of small numbers: their sum and their product are never too large. -/
def Tiny (a : Rat) : Prop := a.num.natAbs < 1000000 ∧ a.den < 1000000
theorem tiny_add {a b : Rat} (ha : Tiny a) (hb : Tiny b) : qtE (addO (some a) (some b)) = 0 := by
  obtain ⟨a1, a2⟩ := ha
  obtain ⟨b1, b2⟩ := hb
  have k1 : (a.num * b.den).natAbs < 1000000 * 1000000 := abs_mul a1 (by rw [Int.natAbs_natCast]; exact b2)
  have k2 : (b.num * a.den).natAbs < 1000000 * 1000000 := abs_mul b1 (by rw [Int.natAbs_natCast]; exact a2)
  have k3 : ((a.den : Int) * b.den).natAbs < 1000000 * 1000000 := abs_mul (by rw [Int.natAbs_natCast]; exact a2) (by rw [Int.natAbs_natCast]; exact b2)
  unfold addO
  dsimp only
  rw [if_pos (by rw [fits_tiny (Nat.lt_trans k1 (by decide)), fits_tiny (Nat.lt_trans k2 (by decide)), fits_tiny (Nat.lt_trans k3 (by decide)), fits_tiny (Nat.lt_trans (abs_add k1 k2) (by decide))]; rfl)]
  rfl
theorem tiny_mul {a b : Rat} (ha : Tiny a) (hb : Tiny b) : qtE (mulO (some a) (some b)) = 0 := by
  obtain ⟨a1, a2⟩ := ha
  obtain ⟨b1, b2⟩ := hb
  have k1 : (a.num * b.num).natAbs < 1000000 * 1000000 := abs_mul a1 b1
  have k3 : ((a.den : Int) * b.den).natAbs < 1000000 * 1000000 := abs_mul (by rw [Int.natAbs_natCast]; exact a2) (by rw [Int.natAbs_natCast]; exact b2)
  unfold mulO
  dsimp only
  rw [if_pos (by rw [fits_tiny (Nat.lt_trans k1 (by decide)), fits_tiny (Nat.lt_trans k3 (by decide))]; rfl)]
  rfl
section
variable {a b c : Rat}
theorem fld_add (h0 : qtE (addO (some a) (some b)) = 0) (h1 : qtE (addO (some b) (some c)) = 0) (h2 : qtE (addO (addO (some a) (some b)) (some c)) = 0) (h3 : qtE (addO (some a) (addO (some b) (some c))) = 0) : addO (addO (some a) (some b)) (some c) = addO (some a) (addO (some b) (some c)) := by
  obtain ⟨r, hr⟩ := some_of h0
  obtain ⟨t, ht⟩ := some_of h1
  rw [hr] at h2
  rw [ht] at h3
  obtain ⟨u, hu⟩ := some_of h2
  obtain ⟨v, hv⟩ := some_of h3
  rw [hr, ht, hu, hv, add_is hu, add_is hv, add_is hr, add_is ht, Rat.add_assoc]
theorem fld_mul (h0 : qtE (mulO (some a) (some b)) = 0) (h1 : qtE (mulO (some b) (some c)) = 0) (h2 : qtE (mulO (some a) (mulO (some b) (some c))) = 0) (h3 : qtE (mulO (mulO (some a) (some b)) (some c)) = 0) : mulO (some a) (mulO (some b) (some c)) = mulO (mulO (some a) (some b)) (some c) := by
  obtain ⟨r, hr⟩ := some_of h0
  obtain ⟨t, ht⟩ := some_of h1
  rw [ht] at h2
  rw [hr] at h3
  obtain ⟨u, hu⟩ := some_of h2
  obtain ⟨v, hv⟩ := some_of h3
  rw [hr, ht, hu, hv, mul_is hu, mul_is hv, mul_is hr, mul_is ht, Rat.mul_assoc]
theorem fld_dist (h0 : qtE (addO (some a) (some b)) = 0) (h1 : qtE (mulO (some a) (some c)) = 0) (h2 : qtE (mulO (some b) (some c)) = 0) (h3 : qtE (addO (mulO (some a) (some c)) (mulO (some b) (some c))) = 0) (h4 : qtE (mulO (addO (some a) (some b)) (some c)) = 0) :
    addO (mulO (some a) (some c)) (mulO (some b) (some c)) = mulO (addO (some a) (some b)) (some c) := by
  obtain ⟨r, hr⟩ := some_of h0
  obtain ⟨t, ht⟩ := some_of h1
  obtain ⟨u, hu⟩ := some_of h2
  rw [ht, hu] at h3
  rw [hr] at h4
  obtain ⟨v, hv⟩ := some_of h3
  obtain ⟨x, hx⟩ := some_of h4
  rw [hr, ht, hu, hv, hx, add_is hv, mul_is hx, add_is hr, mul_is ht, mul_is hu, Rat.add_mul]
theorem fld_back (h0 : qtE (addO (some a) (some b)) = 0) (h1 : qtE (subO (addO (some a) (some b)) (some b)) = 0) : subO (addO (some a) (some b)) (some b) = some a := by
  obtain ⟨r, hr⟩ := some_of h0
  rw [hr] at h1
  obtain ⟨t, ht⟩ := some_of h1
  rw [hr, ht, sub_is ht, add_is hr]
  congr 1
  grind
theorem fld_again (h0 : qtE (divO (some a) (some b)) = 0) (h1 : qtE (mulO (divO (some a) (some b)) (some b)) = 0) : mulO (divO (some a) (some b)) (some b) = some a := by
  obtain ⟨r, hr⟩ := some_of h0
  rw [hr] at h1
  obtain ⟨t, ht⟩ := some_of h1
  obtain ⟨e, hb⟩ := div_is hr
  rw [hr, ht, mul_is ht, e, Rat.div_mul_cancel hb]
end
abbrev F4 (o0 o1 o2 o3 : Option Rat) : Value := .tuple #[.agg #[.string (qtN o0), .string (qtD o0), .string (qtN o1), .string (qtD o1), .string (qtN o2), .string (qtD o2), .string (qtN o3), .string (qtD o3)], .agg #[.int .i64 (qtE o0), .int .i64 (qtE o1), .int .i64 (qtE o2), .int .i64 (qtE o3)]]
theorem four_q {o p : Option Rat} (ho : okO o = true) (hp : okO p = true) : Cl 15 #[qv o, qv p] (F4 (addO o p) (subO o p) (mulO o p) (divO o p)) :=
  four_c _ _ _ _ _ _ _ _ _ _ _ _ _ _ _ _ (fun W h => add_q ho hp W h) (fun W h => sub_q ho hp W h) (fun W h => mul_q ho hp W h) (fun W h => div_q ho hp W h)
end Go.Proofs.YtgpncnnlhhmjaaaGreatDoor
