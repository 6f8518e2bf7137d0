/- Fractions: plain functions of texts, over core's rational numbers. No program. Fractions in order, on a grid, and within bounds. No program. A fraction's text, cut at its slash. No program. -/
import Derived.Test.YtgpncnnlhhmjaaaGreatDoorSpec
import Derived.Lib.Bytealg
namespace Go.Proofs.YtgpncnnlhhmjaaaGreatDoor
open Go

/-- Both numbers of a fraction have at most 200 digits. -/
def okQ (q : Rat) : Bool := fits q.num && fits (q.den : Int)
def okO : Option Rat → Bool
  | some q => okQ q
  | none => true
def qtN : Option Rat → ByteArray
  | some q => dec q.num
  | none => ⟨#[]⟩
def qtD : Option Rat → ByteArray
  | some q => dec (q.den : Int)
  | none => ⟨#[]⟩
def qtE : Option Rat → Int
  | some _ => 0
  | none => 40
def validR (n d : ByteArray) : Bool := both n d && decide (0 < numB d) && decide (Int.gcd (numB n) (numB d) = 1)
/-- The fraction that two texts are, if they are one. -/
def readR (n d : ByteArray) : Option Rat := if validR n d then some (Rat.divInt (numB n) (numB d)) else none
/-- What Make makes of two texts. -/
def makeR (n d : ByteArray) : Option Rat := if both n d && decide (numB d ≠ 0) then some (Rat.divInt (numB n) (numB d)) else none

theorem okQ_iff {q : Rat} : okQ q = true ↔ fits q.num = true ∧ fits (q.den : Int) = true := by simp [okQ]
theorem fits_le {x y : Int} (h : fits y = true) (hx : x.natAbs ≤ y.natAbs) : fits x = true := by
  simp only [fits, decide_eq_true_eq] at *
  omega
theorem divInt_low {n d : Int} (hd : 0 < d) (hg : Int.gcd n d = 1) : (Rat.divInt n d).num = n ∧ ((Rat.divInt n d).den : Int) = d := by
  rw [Rat.num_divInt, Rat.den_divInt, Int.gcd_comm, hg, Int.sign_eq_one_of_pos hd, if_neg (by omega)]
  constructor
  · simp
  · simp; omega
theorem den_posI (q : Rat) : 0 < (q.den : Int) := by have := q.den_pos; omega
theorem gcd_text (q : Rat) : Int.gcd q.num (q.den : Int) = 1 := by
  have := q.reduced
  rw [Int.gcd, Int.natAbs_natCast]
  exact this
theorem valid_text {q : Rat} (h : okQ q = true) : validR (dec q.num) (dec (q.den : Int)) = true := by
  obtain ⟨h1, h2⟩ := okQ_iff.1 h
  rw [validR, both, valid_dec, valid_dec, h1, h2, num_dec, num_dec, decide_eq_true (den_posI q), decide_eq_true (gcd_text q)]; rfl
theorem self_divInt (q : Rat) : Rat.divInt q.num (q.den : Int) = q := Rat.num_divInt_den q
theorem read_text {q : Rat} (h : okQ q = true) : readR (dec q.num) (dec (q.den : Int)) = some q := by
  rw [readR, valid_text h, if_pos rfl, num_dec, num_dec, self_divInt]
theorem read_opt {o : Option Rat} (h : okO o = true) : readR (qtN o) (qtD o) = o := by
  cases o with
  | none => rfl
  | some q => exact read_text h
theorem valid_parts {n d : ByteArray} (h : validR n d = true) : both n d = true ∧ 0 < numB d ∧ Int.gcd (numB n) (numB d) = 1 := by
  simp only [validR, Bool.and_eq_true, decide_eq_true_eq] at h
  exact ⟨h.1.1, h.1.2, h.2⟩
theorem both_parts {n d : ByteArray} (h : both n d = true) : validB n.data.toList = true ∧ validB d.data.toList = true := by simpa [both] using h
theorem fits_of {n : ByteArray} (h : validB n.data.toList = true) : fits (numB n) = true := by
  have := valid_dec (numB n)
  rw [dec_numB n h] at this
  rw [← this, h]
theorem read_some {n d : ByteArray} {q : Rat} (h : readR n d = some q) : n = dec q.num ∧ d = dec (q.den : Int) ∧ okQ q = true := by
  unfold readR at h
  split at h
  · rename_i hv
    obtain ⟨h1, h2, h3⟩ := valid_parts hv
    obtain ⟨v1, v2⟩ := both_parts h1
    obtain ⟨e1, e2⟩ := divInt_low h2 h3
    have hq : Rat.divInt (numB n) (numB d) = q := by simpa using h
    rw [← hq, okQ, e1, e2, dec_numB n v1, dec_numB d v2, fits_of v1, fits_of v2]
    exact ⟨rfl, rfl, rfl⟩
  · simp at h
theorem read_ok (n d : ByteArray) : okO (readR n d) = true := by
  cases h : readR n d with
  | none => rfl
  | some q => exact (read_some h).2.2
theorem valid_read (n d : ByteArray) : validR n d = (readR n d).isSome := by
  unfold readR
  split
  · rename_i h; rw [h]; rfl
  · rename_i h; simpa using h
theorem read_none {n d : ByteArray} (h : validR n d = false) : readR n d = none := by rw [readR, h]; rfl
theorem read_is {n d : ByteArray} (h : validR n d = true) : ∃ q, readR n d = some q ∧ n = dec q.num ∧ d = dec (q.den : Int) ∧ okQ q = true := by
  have h1 : readR n d = some (Rat.divInt (numB n) (numB d)) := by rw [readR, h, if_pos rfl]
  exact ⟨_, h1, read_some h1⟩

/-! ### bounds of a quotient -/
theorem ediv_natAbs (a : Int) (b : Nat) : (a / (b : Int)).natAbs ≤ a.natAbs := Int.natAbs_ediv_le_natAbs a b
theorem num_le (n d : Int) : (Rat.divInt n d).num.natAbs ≤ n.natAbs := by
  rw [Rat.num_divInt]
  refine Nat.le_trans (Int.natAbs_ediv_le_natAbs _ _) ?_
  rw [Int.natAbs_mul]
  have : d.sign.natAbs ≤ 1 := by rw [Int.natAbs_sign]; split <;> omega
  exact Nat.le_trans (Nat.mul_le_mul_right _ this) (by omega)
theorem den_le {n d : Int} (h : d ≠ 0) : (Rat.divInt n d).den ≤ d.natAbs := by
  rw [Rat.den_divInt, if_neg h]
  exact Nat.div_le_self _ _
theorem ok_divInt {n d : Int} (hn : fits n = true) (hd : fits d = true) (h : d ≠ 0) : okQ (Rat.divInt n d) = true := by
  rw [okQ_iff]
  exact ⟨fits_le hn (num_le n d), fits_le hd (by rw [Int.natAbs_natCast]; exact den_le h)⟩
theorem make_ok (n d : ByteArray) : okO (makeR n d) = true := by
  unfold makeR
  split
  · rename_i h
    simp only [Bool.and_eq_true, decide_eq_true_eq] at h
    obtain ⟨v1, v2⟩ := both_parts h.1
    exact ok_divInt (fits_of v1) (fits_of v2) h.2
  · rfl
/-- Reducing: the texts of what Make returns. -/
theorem divInt_pos {n d : Int} (hd : 0 < d) : (Rat.divInt n d).num = n / (Int.gcd n d : Int) ∧ ((Rat.divInt n d).den : Int) = d / (Int.gcd n d : Int) := by
  rw [Rat.num_divInt, Rat.den_divInt, Int.gcd_comm, Int.sign_eq_one_of_pos hd, if_neg (by omega)]
  refine ⟨by simp, ?_⟩
  rw [Int.natCast_ediv, Int.natAbs_of_nonneg (by omega)]
theorem divInt_negs (n d : Int) : Rat.divInt n d = Rat.divInt (-n) (-d) := (Rat.neg_divInt_neg n d).symm

/-! ### the operations -/
def addO : Option Rat → Option Rat → Option Rat
  | some a, some b => if fits (a.num * b.den) && fits (b.num * a.den) && fits ((a.den : Int) * b.den) && fits (a.num * b.den + b.num * a.den) then some (a + b) else none
  | _, _ => none
def subO : Option Rat → Option Rat → Option Rat
  | some a, some b => if fits (a.num * b.den) && fits (b.num * a.den) && fits ((a.den : Int) * b.den) && fits (a.num * b.den - b.num * a.den) then some (a - b) else none
  | _, _ => none
def mulO : Option Rat → Option Rat → Option Rat
  | some a, some b => if fits (a.num * b.num) && fits ((a.den : Int) * b.den) then some (a * b) else none
  | _, _ => none
def divO : Option Rat → Option Rat → Option Rat
  | some a, some b => if fits (a.num * b.den) && fits ((a.den : Int) * b.num) && decide (b.num ≠ 0) then some (a / b) else none
  | _, _ => none
def cmpO : Option Rat → Option Rat → Int
  | some a, some b => cmpI (a.num * b.den) (b.num * a.den)
  | _, _ => 0
def downO (p : Int) : Option Rat → Option Rat
  | some q => if decide (0 ≤ p) && decide (p ≤ 30) && fits (q.num * (10 ^ p.toNat : Nat)) then some (Rat.divInt (q.num * (10 ^ p.toNat : Nat) / q.den) (10 ^ p.toNat : Nat)) else none
  | none => none
/-- The next whole number, where something is left. -/
def ceilI (n d : Int) : Int := if n % d = 0 then n / d else n / d + 1
def upO (p : Int) : Option Rat → Option Rat
  | some q => if decide (0 ≤ p) && decide (p ≤ 30) && fits (q.num * (10 ^ p.toNat : Nat)) && fits (ceilI (q.num * (10 ^ p.toNat : Nat)) q.den) then some (Rat.divInt (ceilI (q.num * (10 ^ p.toNat : Nat)) q.den) (10 ^ p.toNat : Nat)) else none
  | none => none
theorem add_div (a b : Rat) : Rat.divInt (a.num * b.den + b.num * a.den) ((a.den : Int) * b.den) = a + b := by
  rw [Rat.add_def', ← Rat.divInt_ofNat, Int.natCast_mul]
theorem sub_div (a b : Rat) : Rat.divInt (a.num * b.den - b.num * a.den) ((a.den : Int) * b.den) = a - b := by
  rw [Rat.sub_def', ← Rat.divInt_ofNat, Int.natCast_mul]
theorem mul_div (a b : Rat) : Rat.divInt (a.num * b.num) ((a.den : Int) * b.den) = a * b := by
  rw [Rat.mul_def', ← Rat.divInt_ofNat, Int.natCast_mul]
theorem div_div (a b : Rat) : Rat.divInt (a.num * b.den) ((a.den : Int) * b.num) = a / b := by
  rw [Rat.div_def, Rat.inv_def]
  have h : Rat.divInt a.num a.den * Rat.divInt b.den b.num = Rat.divInt (a.num * b.den) ((a.den : Int) * b.num) := Rat.divInt_mul_divInt _ _
  rw [self_divInt] at h
  exact h.symm
theorem den_ne (q : Rat) : (q.den : Int) ≠ 0 := by have := den_posI q; omega
theorem add_ok (a b : Option Rat) : okO (addO a b) = true := by
  cases a <;> cases b <;> try rfl
  simp only [addO]
  split
  · rename_i h
    simp only [Bool.and_eq_true] at h
    rw [okO, ← add_div]
    exact ok_divInt h.2 h.1.2 (Int.mul_ne_zero (den_ne _) (den_ne _))
  · rfl
theorem sub_ok (a b : Option Rat) : okO (subO a b) = true := by
  cases a <;> cases b <;> try rfl
  simp only [subO]
  split
  · rename_i h
    simp only [Bool.and_eq_true] at h
    rw [okO, ← sub_div]
    exact ok_divInt h.2 h.1.2 (Int.mul_ne_zero (den_ne _) (den_ne _))
  · rfl
theorem mul_ok (a b : Option Rat) : okO (mulO a b) = true := by
  cases a <;> cases b <;> try rfl
  simp only [mulO]
  split
  · rename_i h
    simp only [Bool.and_eq_true] at h
    rw [okO, ← mul_div]
    exact ok_divInt h.1 h.2 (Int.mul_ne_zero (den_ne _) (den_ne _))
  · rfl
theorem div_ok (a b : Option Rat) : okO (divO a b) = true := by
  cases a <;> cases b <;> try rfl
  simp only [divO]
  split
  · rename_i h
    simp only [Bool.and_eq_true, decide_eq_true_eq] at h
    rw [okO, ← div_div]
    exact ok_divInt h.1.1 h.1.2 (Int.mul_ne_zero (den_ne _) h.2)
  · rfl
theorem tens_ne (n : Nat) : ((10 ^ n : Nat) : Int) ≠ 0 := by have := Nat.pow_pos (n := n) (show 0 < 10 by decide); omega
theorem tens_lt {n : Nat} (h : n ≤ 30) : 10 ^ n < 10 ^ 200 := Nat.lt_of_le_of_lt (Nat.pow_le_pow_right (show 10 > 0 by decide) h) (Nat.pow_lt_pow_right (a := 10) (by decide) (show 30 < 200 by decide))
theorem tens_fits {p : Int} (h : p ≤ 30) : fits ((10 ^ p.toNat : Nat) : Int) = true := by
  unfold fits lim
  rw [decide_eq_true_eq, Int.natAbs_natCast]
  exact tens_lt (by omega)
theorem down_ok (p : Int) (a : Option Rat) : okO (downO p a) = true := by
  cases a
  · rfl
  · simp only [downO]
    split
    · rename_i h
      simp only [Bool.and_eq_true, decide_eq_true_eq] at h
      exact ok_divInt (fits_le h.2 (ediv_natAbs _ _)) (tens_fits h.1.2) (tens_ne _)
    · rfl
theorem up_ok (p : Int) (a : Option Rat) : okO (upO p a) = true := by
  cases a
  · rfl
  · simp only [upO]
    split
    · rename_i h
      simp only [Bool.and_eq_true, decide_eq_true_eq] at h
      exact ok_divInt h.2 (tens_fits h.1.1.2) (tens_ne _)
    · rfl
/-- A fraction's text. -/
def prO : Option Rat → ByteArray
  | some q => if q.den = 1 then dec q.num else dec q.num ++ ⟨#[47]⟩ ++ dec (q.den : Int)
  | none => ⟨#[]⟩
end Go.Proofs.YtgpncnnlhhmjaaaGreatDoor
namespace Go.Proofs.YtgpncnnlhhmjaaaGreatDoor
open Go

theorem num_den (n : Int) {d : Int} (hd : d ≠ 0) : (Rat.divInt n d).num * d = n * ((Rat.divInt n d).den : Int) := by
  have h := self_divInt (Rat.divInt n d)
  exact (Rat.divInt_eq_divInt_iff (den_ne _) hd).1 h
theorem divInt_is {n d : Int} (hd : d ≠ 0) {q : Rat} : Rat.divInt n d = q ↔ n * q.den = q.num * d := by
  have h := Rat.divInt_eq_divInt_iff (n₁ := n) (n₂ := q.num) hd (den_ne q)
  rw [self_divInt] at h
  exact h
def cmpQ (a b : Rat) : Int := cmpI (a.num * b.den) (b.num * a.den)
theorem cmpQ_eq (a b : Rat) : cmpQ a b = if a < b then -1 else if b < a then 1 else 0 := by
  unfold cmpQ cmpI
  simp only [Rat.lt_iff]
theorem cmpQ_lt {a b : Rat} (h : a < b) : cmpQ a b = -1 := by rw [cmpQ_eq, if_pos h]
theorem cmpQ_gt {a b : Rat} (h : b < a) : cmpQ a b = 1 := by
  rw [cmpQ_eq, if_neg, if_pos h]
  intro h2; grind
theorem cmpQ_self (a : Rat) : cmpQ a a = 0 := by
  rw [cmpQ_eq, if_neg, if_neg] <;> exact Rat.lt_irrefl
theorem tri (a b : Rat) : a < b ∨ a = b ∨ b < a := by grind
theorem cmpQ_add (a b t : Rat) : cmpQ (a + t) (b + t) = cmpQ a b := by
  rw [cmpQ_eq, cmpQ_eq]
  simp only [Rat.add_lt_add_right]
theorem cmpQ_sub (a b : Rat) : cmpQ (a - b) 0 = cmpQ a b := by
  rcases tri a b with h | h | h
  · rw [cmpQ_lt h, cmpQ_lt]; grind
  · subst h; rw [Rat.sub_self, cmpQ_self, cmpQ_self]
  · rw [cmpQ_gt h, cmpQ_gt]; grind
theorem cmpQ_mul (a b t : Rat) : cmpQ (a * t) (b * t) = cmpQ a b * cmpQ t 0 := by
  rcases tri t 0 with h | h | h
  · have ht : 0 < -t := by grind
    have key : ∀ x y : Rat, x < y → y * t < x * t := fun x y hxy => by
      have h1 := Rat.mul_lt_mul_of_pos_right hxy ht
      rw [Rat.mul_neg, Rat.mul_neg] at h1
      exact Rat.neg_lt_neg_iff.1 h1
    rw [cmpQ_lt h]
    rcases tri a b with g | g | g
    · rw [cmpQ_lt g, cmpQ_gt (key _ _ g)]; rfl
    · subst g; rw [cmpQ_self, cmpQ_self]; rfl
    · rw [cmpQ_gt g, cmpQ_lt (key _ _ g)]; rfl
  · subst h; rw [Rat.mul_zero, Rat.mul_zero, cmpQ_self, Int.mul_zero]
  · have key : ∀ x y : Rat, x < y → x * t < y * t := fun x y hxy => Rat.mul_lt_mul_of_pos_right hxy h
    rw [cmpQ_gt h, Int.mul_one]
    rcases tri a b with g | g | g
    · rw [cmpQ_lt g, cmpQ_lt (key _ _ g)]
    · subst g; rw [cmpQ_self, cmpQ_self]
    · rw [cmpQ_gt g, cmpQ_gt (key _ _ g)]
theorem cmpI_mul_right {x y t : Int} (ht : 0 < t) : cmpI (x * t) (y * t) = cmpI x y := by
  unfold cmpI
  simp only [Int.mul_lt_mul_right ht]
/-- Comparing what two integers make, crosswise. -/
theorem cmpQ_divInt {n d m c : Int} (hd : 0 < d) (hc : 0 < c) : cmpQ (Rat.divInt n d) (Rat.divInt m c) = cmpI (n * c) (m * d) := by
  unfold cmpQ
  have h1 := num_den n (show d ≠ 0 by omega)
  have h2 := num_den m (show c ≠ 0 by omega)
  have p1 := den_posI (Rat.divInt n d)
  have p2 := den_posI (Rat.divInt m c)
  generalize (Rat.divInt n d).num = x at *
  generalize ((Rat.divInt n d).den : Int) = u at *
  generalize (Rat.divInt m c).num = y at *
  generalize ((Rat.divInt m c).den : Int) = v at *
  rw [← cmpI_mul_right (Int.mul_pos hd hc), ← cmpI_mul_right (x := n * c) (Int.mul_pos p1 p2)]
  rw [show x * v * (d * c) = x * d * (v * c) by simp only [Int.mul_comm, Int.mul_left_comm], h1, show y * u * (d * c) = y * c * (u * d) by simp only [Int.mul_comm, Int.mul_left_comm], h2]
  congr 1 <;> simp only [Int.mul_comm, Int.mul_left_comm]
theorem cmpQ_left {n d : Int} (hd : 0 < d) (q : Rat) : cmpQ (Rat.divInt n d) q = cmpI (n * q.den) (q.num * d) := by
  have h := cmpQ_divInt (n := n) (m := q.num) hd (den_posI q)
  rw [self_divInt] at h
  exact h

/-! ### the grid -/
def dn (t : Int) (q : Rat) : Rat := Rat.divInt (q.num * t / q.den) t
def upq (t : Int) (q : Rat) : Rat := Rat.divInt (ceilI (q.num * t) q.den) t
theorem ceil_cases (n : Int) {d : Int} : (n % d = 0 ∧ ceilI n d = n / d) ∨ (n % d ≠ 0 ∧ ceilI n d = n / d + 1) := by
  unfold ceilI
  by_cases h : n % d = 0
  · exact Or.inl ⟨h, by rw [if_pos h]⟩
  · exact Or.inr ⟨h, by rw [if_neg h]⟩
theorem div_mul (n d : Int) : n / d * d + n % d = n := by rw [Int.mul_comm]; exact Int.mul_ediv_add_emod n d
theorem dn_le {t : Int} (ht : 0 < t) (q : Rat) : cmpQ (dn t q) q ≤ 0 := by
  rw [dn, cmpQ_left ht]
  have h1 := div_mul (q.num * t) q.den
  have h2 := Int.emod_nonneg (q.num * t) (den_ne q)
  unfold cmpI
  split
  · decide
  · rw [if_neg (by omega)]; decide
theorem up_ge {t : Int} (ht : 0 < t) (q : Rat) : 0 ≤ cmpQ (upq t q) q := by
  rw [upq, cmpQ_left ht]
  have h1 := div_mul (q.num * t) q.den
  have h2 := Int.emod_lt_of_pos (q.num * t) (den_posI q)
  unfold cmpI
  rcases ceil_cases (q.num * t) (d := q.den) with ⟨h, e⟩ | ⟨h, e⟩
  · rw [e, if_neg (by omega)]; split <;> decide
  · rw [e, Int.add_mul, Int.one_mul, if_neg (by omega)]; split <;> decide
theorem dn_exact {t : Int} (ht : 0 < t) (q : Rat) : cmpQ (dn t q) q = 0 ↔ q.num * t % q.den = 0 := by
  rw [dn, cmpQ_left ht]
  have h1 := div_mul (q.num * t) q.den
  unfold cmpI
  constructor
  · intro h
    by_cases g : q.num * t / ↑q.den * ↑q.den < q.num * t
    · rw [if_pos g] at h; simp at h
    · have h2 := Int.emod_nonneg (q.num * t) (den_ne q); omega
  · intro h
    rw [if_neg (by omega), if_neg (by omega)]
theorem up_exact {t : Int} (ht : 0 < t) (q : Rat) : cmpQ (upq t q) q = 0 ↔ q.num * t % q.den = 0 := by
  rw [upq, cmpQ_left ht]
  have h1 := div_mul (q.num * t) q.den
  have h2 := Int.emod_lt_of_pos (q.num * t) (den_posI q)
  unfold cmpI
  rcases ceil_cases (q.num * t) (d := q.den) with ⟨h, e⟩ | ⟨h, e⟩
  · rw [e, if_neg (by omega), if_neg (by omega)]; simp [h]
  · rw [e, Int.add_mul, Int.one_mul, if_neg (by omega), if_pos (by omega)]; simp [h]
theorem on_grid {k t : Int} (ht : 0 < t) : (Rat.divInt k t).num * t % (Rat.divInt k t).den = 0 ∧ (Rat.divInt k t).num * t / (Rat.divInt k t).den = k := by
  rw [num_den k (show t ≠ 0 by omega)]
  exact ⟨Int.mul_emod_left _ _, Int.mul_ediv_cancel _ (den_ne _)⟩
theorem dn_grid {k t : Int} (ht : 0 < t) : dn t (Rat.divInt k t) = Rat.divInt k t := by rw [dn, (on_grid ht).2]
theorem up_grid {k t : Int} (ht : 0 < t) : upq t (Rat.divInt k t) = Rat.divInt k t := by
  rw [upq, ceilI, if_pos (on_grid ht).1, (on_grid ht).2]
theorem dn_neg {t : Int} (q : Rat) : dn t (-q) = Rat.divInt (-(ceilI (q.num * t) q.den)) t := by
  unfold dn
  rw [Rat.neg_num, Rat.neg_den, Int.neg_mul]
  congr 1
  have h1 := div_mul (q.num * t) q.den
  have h2 := Int.emod_lt_of_pos (q.num * t) (den_posI q)
  have h3 := Int.emod_nonneg (q.num * t) (den_ne q)
  have hp := den_posI q
  rcases ceil_cases (q.num * t) (d := q.den) with ⟨h, e⟩ | ⟨h, e⟩
  · rw [e]
    have e2 : -(q.num * t) = -(q.num * t / q.den) * q.den := by rw [Int.neg_mul]; omega
    rw [e2, Int.mul_ediv_cancel _ (den_ne q)]
  · rw [e]
    refine (Int.ediv_emod_unique hp (r := q.den - q.num * t % q.den)).2 ⟨?_, by omega, by omega⟩ |>.1
    rw [Int.mul_comm (q.den : Int), Int.neg_mul, Int.add_mul]
    omega
theorem up_minus {t : Int} (q : Rat) : 0 - dn t (-q) = upq t q := by
  rw [dn_neg, upq]
  rw [show Rat.divInt (-(ceilI (q.num * t) q.den)) t = -Rat.divInt (ceilI (q.num * t) q.den) t by rw [Rat.neg_divInt]]
  grind
theorem width_is {t : Int} (ht : 0 < t) (q : Rat) : upq t q - dn t q = if q.num * t % q.den = 0 then 0 else Rat.divInt 1 t := by
  unfold upq dn
  have h0 : t ≠ 0 := by omega
  rcases ceil_cases (q.num * t) (d := q.den) with ⟨h, e⟩ | ⟨h, e⟩
  · rw [e, if_pos h, Rat.sub_self]
  · rw [e, if_neg h]
    have h2 : Rat.divInt (q.num * t / q.den + 1) t = Rat.divInt (q.num * t / q.den) t + Rat.divInt 1 t := by
      rw [Rat.divInt_add_divInt _ _ h0 h0, ← Int.add_mul, Rat.divInt_mul_right h0]
    rw [h2]; grind
theorem mul_grid {k t : Int} (ht : t ≠ 0) : Rat.divInt k t * Rat.divInt t 1 = Rat.divInt k 1 := by
  rw [Rat.divInt_mul_divInt, Int.mul_one]
  exact (Rat.divInt_eq_divInt_iff ht (by decide)).2 (by simp)
theorem den_whole (k : Int) : (Rat.divInt k 1).num = k ∧ ((Rat.divInt k 1).den : Int) = 1 := divInt_low (by decide) (by simp)

/-! ### bounds -/
theorem num_lt {n d : Int} {m : Nat} (h : n.natAbs < m) : (Rat.divInt n d).num.natAbs < m := Nat.lt_of_le_of_lt (num_le n d) h
theorem den_lt {n d : Int} {m : Nat} (h0 : d ≠ 0) (h : d.natAbs < m) : ((Rat.divInt n d).den : Int).natAbs < m := by
  rw [Int.natAbs_natCast]
  exact Nat.lt_of_le_of_lt (den_le h0) h
theorem abs_mul {x y : Int} {m n : Nat} (hx : x.natAbs < m) (hy : y.natAbs < n) : (x * y).natAbs < m * n := by
  rw [Int.natAbs_mul]
  exact Nat.mul_lt_mul'' hx hy
theorem abs_add {x y : Int} {m n : Nat} (hx : x.natAbs < m) (hy : y.natAbs < n) : (x + y).natAbs < m + n := by omega
theorem abs_sub {x y : Int} {m n : Nat} (hx : x.natAbs < m) (hy : y.natAbs < n) : (x - y).natAbs < m + n := by omega
end Go.Proofs.YtgpncnnlhhmjaaaGreatDoor
namespace Go.Proofs.YtgpncnnlhhmjaaaGreatDoor
open Go

/-- The texts ahead of the first slash and behind it; without one, all of it and 1. -/
def cutN (s : ByteArray) : ByteArray := if Lib.indexByte s.data.toList 47 < 0 then s else s.extract 0 (Lib.indexByte s.data.toList 47).toNat
def cutD (s : ByteArray) : ByteArray := if Lib.indexByte s.data.toList 47 < 0 then ⟨#[49]⟩ else s.extract ((Lib.indexByte s.data.toList 47).toNat + 1) s.size
def parseO (s : ByteArray) : Option Rat := if (readR (cutN s) (cutD s)).isSome && decide (prO (readR (cutN s) (cutD s)) = s) then readR (cutN s) (cutD s) else none
theorem index_none (l : List UInt8) (h : ∀ x ∈ l, x ≠ 47) : Lib.indexByte l 47 = -1 := by
  induction l with
  | nil => rfl
  | cons b l ih =>
    have h1 : (b == (47 : UInt8)) = false := by simpa using h b (List.mem_cons_self ..)
    have h2 := ih fun x hx => h x (List.mem_cons_of_mem _ hx)
    rw [Lib.indexByte, h1, h2]; rfl
theorem index_some (l r : List UInt8) (h : ∀ x ∈ l, x ≠ 47) : Lib.indexByte (l ++ 47 :: r) 47 = l.length := by
  induction l with
  | nil => simp [Lib.indexByte]
  | cons b l ih =>
    have h1 : (b == (47 : UInt8)) = false := by simpa using h b (List.mem_cons_self ..)
    have h2 := ih fun x hx => h x (List.mem_cons_of_mem _ hx)
    rw [List.cons_append, Lib.indexByte, h1, h2, if_neg (by simp), if_neg (by simp)]
    simp
theorem dec_digit (z : Int) : ∀ x ∈ (dec z).data.toList, x ≠ 47 := by
  intro x hx
  have h : x ∈ Lib.itoa z := hx
  unfold Lib.itoa at h
  have key : ∀ n, ∀ y ∈ Lib.decDigits n, y ≠ 47 := by
    intro n y hy
    have h1 := decDigits_all n
    have h2 := List.all_eq_true.1 h1 y hy
    simp only [dig, Bool.and_eq_true, decide_eq_true_eq] at h2
    intro e
    subst e
    simp at h2
  split at h
  · rcases List.mem_cons.1 h with h1 | h1
    · subst h1; decide
    · exact key _ _ h1
  · exact key _ _ h
theorem ext_list {a b : ByteArray} (h : a.data.toList = b.data.toList) : a = b := ByteArray.ext (Array.toList_inj.1 h)
theorem extract_take (s : ByteArray) (n : Nat) : (s.extract 0 n).data.toList = s.data.toList.take n := by simp [ByteArray.data_extract]
theorem size_list (s : ByteArray) : s.size = s.data.toList.length := by rw [Array.length_toList]; rfl
theorem extract_drop (s : ByteArray) (n : Nat) : (s.extract n s.size).data.toList = s.data.toList.drop n := by
  rw [ByteArray.data_extract, Array.toList_extract, List.extract_eq_take_drop, size_list]
  exact List.take_of_length_le (by rw [List.length_drop]; exact Nat.le_refl _)
theorem one_text : (⟨#[49]⟩ : ByteArray) = dec 1 := by rw [dec, Lib.itoa, if_neg (by decide)]; simp [Lib.decDigits, str]
theorem pr_list {q : Rat} (h : q.den ≠ 1) : (prO (some q)).data.toList = (dec q.num).data.toList ++ 47 :: (dec (q.den : Int)).data.toList := by
  rw [prO, if_neg h]
  simp [ByteArray.data_append]
theorem cut_print {q : Rat} : cutN (prO (some q)) = dec q.num ∧ cutD (prO (some q)) = dec (q.den : Int) := by
  by_cases h : q.den = 1
  · have e : prO (some q) = dec q.num := by rw [prO, if_pos h]
    have i := index_none _ (dec_digit q.num)
    rw [cutN, cutD, e, i, if_pos (by decide), if_pos (by decide), h]
    exact ⟨rfl, one_text⟩
  · have e := pr_list h
    have i := index_some _ (dec (q.den : Int)).data.toList (dec_digit q.num)
    rw [← e] at i
    rw [cutN, cutD, i, if_neg (by omega), if_neg (by omega), Int.toNat_natCast]
    refine ⟨ext_list ?_, ext_list ?_⟩
    · rw [extract_take, e]; simp
    · rw [extract_drop, e, ← List.drop_drop, List.drop_left]; rfl
theorem parse_print {o : Option Rat} (h : okO o = true) (hs : o.isSome = true) : parseO (prO o) = o := by
  cases o with
  | none => simp at hs
  | some q =>
    have hr : readR (cutN (prO (some q))) (cutD (prO (some q))) = some q := by rw [cut_print.1, cut_print.2, read_text h]
    rw [parseO, hr]; simp
theorem parseO_ok (s : ByteArray) : okO (parseO s) = true := by
  unfold parseO
  split
  · exact read_ok _ _
  · rfl
theorem parse_some {s : ByteArray} {q : Rat} (h : parseO s = some q) : prO (some q) = s := by
  unfold parseO at h
  split at h
  · rename_i h1
    simp only [Bool.and_eq_true, decide_eq_true_eq] at h1
    rw [← h, h1.2]
  · simp at h
theorem make_read {n d : ByteArray} {q : Rat} (h : readR n d = some q) : makeR n d = some q := by
  unfold readR at h
  split at h
  · rename_i hv
    obtain ⟨h1, h2, _⟩ := valid_parts hv
    rw [makeR, h1, decide_eq_true (show numB d ≠ 0 by omega)]
    exact h
  · simp at h
/-- Parse by Make: the same answer. -/
theorem parse_make (s : ByteArray) : parseO s = if (makeR (cutN s) (cutD s)).isSome && decide (prO (makeR (cutN s) (cutD s)) = s) then makeR (cutN s) (cutD s) else none := by
  cases hm : makeR (cutN s) (cutD s) with
  | none =>
    have hr : readR (cutN s) (cutD s) = none := by
      cases hr : readR (cutN s) (cutD s) with
      | none => rfl
      | some q => rw [make_read hr] at hm; simp at hm
    rw [parseO, hr]
  | some q =>
    by_cases he : prO (some q) = s
    · have hk := make_ok (cutN s) (cutD s)
      rw [hm] at hk
      have := parse_print (o := some q) hk rfl
      rw [he] at this
      rw [this]; simp [he]
    · rw [decide_eq_false he]
      cases hp : parseO s with
      | none => rfl
      | some p =>
        have h1 := parse_some hp
        have h2 := parseO_ok s
        rw [hp] at h2
        have h3 : readR (cutN s) (cutD s) = some p := by rw [← h1, cut_print.1, cut_print.2, read_text h2]
        rw [make_read h3] at hm
        have : p = q := by simpa using hm
        subst this
        exact absurd h1 he
end Go.Proofs.YtgpncnnlhhmjaaaGreatDoor
