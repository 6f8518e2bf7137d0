/- Digits, the lowest one first: plain maths of the reference. No program. -/
import Derived.Test.YtgpncnnlhhmjaaaGreatDoorSpec
namespace Go.Proofs.YtgpncnnlhhmjaaaGreatDoor
open Go

theorem rem10 (x : Nat) : ((x : Int)).tmod 10 = ((x % 10 : Nat) : Int) := by rw [Int.tmod_eq_emod_of_nonneg (by omega)]; omega
def valD : List Nat → Nat
  | [] => 0
  | d :: r => d + 10 * valD r
def dg (n : Nat) : List Nat := if h : n = 0 then [] else (n % 10) :: dg (n / 10)
termination_by n
decreasing_by omega
def Small (l : List Nat) : Prop := ∀ x ∈ l, x < 10

theorem dg_zero : dg 0 = [] := by rw [dg, dif_pos rfl]
theorem dg_pos {n : Nat} (h : 0 < n) : dg n = (n % 10) :: dg (n / 10) := by rw [dg, dif_neg (by omega)]
theorem dg_nil {n : Nat} : dg n = [] ↔ n = 0 := by
  constructor
  · intro h
    rcases Nat.eq_zero_or_pos n with h0 | h0
    · exact h0
    · rw [dg_pos h0] at h; cases h
  · rintro rfl; exact dg_zero
theorem val_dg (n : Nat) : valD (dg n) = n := by
  induction n using Nat.strongRecOn with
  | _ n ih =>
    rcases Nat.eq_zero_or_pos n with h0 | h0
    · subst h0; rw [dg_zero]; rfl
    · rw [dg_pos h0, valD, ih (n / 10) (by omega)]; omega
theorem dg_small (n : Nat) : Small (dg n) := by
  induction n using Nat.strongRecOn with
  | _ n ih =>
    rcases Nat.eq_zero_or_pos n with h0 | h0
    · subst h0; rw [dg_zero]; intro x hx; cases hx
    · rw [dg_pos h0]
      intro x hx
      rcases List.mem_cons.1 hx with h | h
      · omega
      · exact ih (n / 10) (by omega) x h
theorem Small.at {l : List Nat} (h : Small l) {i x : Nat} (hx : l[i]? = some x) : x < 10 := h x (List.mem_of_getElem? hx)
theorem dg_cons (d n : Nat) (hd : d < 10) (h : 0 < d + 10 * n) : dg (d + 10 * n) = d :: dg n := by
  rw [dg_pos h, show (d + 10 * n) % 10 = d by omega, show (d + 10 * n) / 10 = n by omega]
theorem dg_one {d : Nat} (h0 : 0 < d) (h : d < 10) : dg d = [d] := by
  have := dg_cons d 0 h (by omega)
  rw [Nat.mul_zero, Nat.add_zero, dg_zero] at this
  exact this
theorem valD_append (l r : List Nat) : valD (l ++ r) = valD l + 10 ^ l.length * valD r := by
  induction l with
  | nil => simp [valD]
  | cons d l ih =>
    rw [List.cons_append, valD, ih, valD, List.length_cons, Nat.pow_succ, Nat.mul_add, Nat.add_assoc]
    congr 2
    rw [← Nat.mul_assoc, Nat.mul_comm 10]
theorem valD_lt {l : List Nat} (h : Small l) : valD l < 10 ^ l.length := by
  induction l with
  | nil => simp [valD]
  | cons d l ih =>
    have h1 := ih (fun x hx => h x (by simp [hx]))
    have h2 : d < 10 := h d (by simp)
    rw [valD, List.length_cons, Nat.pow_succ]
    omega
/-- A list with no zero in front is the number's. -/
theorem dg_of {l : List Nat} (h : Small l) (ht : ∀ k, l.length = k + 1 → l[k]? ≠ some 0) : dg (valD l) = l := by
  induction l with
  | nil => rw [valD, dg_zero]
  | cons d l ih =>
    have hd : d < 10 := h d (by simp)
    have h1 := ih (fun x hx => h x (by simp [hx])) (fun k hk hx => ht (k + 1) (by simp [hk]) (by simpa using hx))
    rw [valD]
    have hpos : 0 < d + 10 * valD l := by
      rcases Nat.eq_zero_or_pos d with h0 | h0
      · subst h0
        match l, h1, ht with
        | [], _, ht => exact absurd rfl (ht 0 rfl)
        | e :: r, h1, _ =>
          have : valD (e :: r) ≠ 0 := fun e0 => by rw [e0, dg_zero] at h1; cases h1
          omega
      · omega
    rw [dg_cons d _ hd hpos, h1]
theorem dg_top (n k : Nat) (hk : (dg n).length = k + 1) : (dg n)[k]? ≠ some 0 := by
  induction n using Nat.strongRecOn generalizing k with
  | _ n ih =>
    rcases Nat.eq_zero_or_pos n with h0 | h0
    · subst h0; rw [dg_zero] at hk; cases hk
    · rw [dg_pos h0] at hk ⊢
      match k, hk with
      | 0, hk =>
        have : dg (n / 10) = [] := List.eq_nil_of_length_eq_zero (by simpa using hk)
        have := dg_nil.1 this
        simp only [List.getElem?_cons_zero, ne_eq, Option.some.injEq]; omega
      | k + 1, hk =>
        rw [List.getElem?_cons_succ]
        exact ih (n / 10) (by omega) k (by simpa using hk)
theorem valD_strip {l : List Nat} {k : Nat} (h : l[k]? = some 0) : valD (l.take (k + 1)) = valD (l.take k) := by
  rw [List.take_add_one, h, valD_append]
  simp [valD]
theorem take_small {l : List Nat} (h : Small l) (k : Nat) : Small (l.take k) := fun x hx => h x (List.mem_of_mem_take hx)
theorem small_snoc {l : List Nat} {d : Nat} (h : Small l) (hd : d < 10) : Small (l ++ [d]) := fun x hx => by
  rcases List.mem_append.1 hx with h1 | h1
  · exact h x h1
  · rw [List.mem_singleton.1 h1]; exact hd
theorem dg_len (n k : Nat) : (dg n).length ≤ k ↔ n < 10 ^ k := by
  induction k generalizing n with
  | zero =>
    rw [Nat.pow_zero]
    constructor
    · intro h
      have := dg_nil.1 (List.eq_nil_of_length_eq_zero (Nat.le_zero.1 h)); omega
    · intro h
      have : n = 0 := by omega
      rw [this, dg_zero]; exact Nat.le_refl _
  | succ k ih =>
    rcases Nat.eq_zero_or_pos n with h0 | h0
    · subst h0; rw [dg_zero]; simp [Nat.pow_pos]
    · rw [dg_pos h0, List.length_cons, Nat.add_le_add_iff_right, ih, Nat.pow_succ]
      omega
theorem dg_len_lt {n k : Nat} (h : n < 10 ^ k) : (dg n).length ≤ k := (dg_len n k).2 h
/-- The digits written, the highest one first. -/
def wrt (l : List Nat) : List UInt8 := l.reverse.map fun d => UInt8.ofNat (48 + d)
theorem wrt_cons (d : Nat) (l : List Nat) : wrt (d :: l) = wrt l ++ [UInt8.ofNat (48 + d)] := by simp [wrt]
theorem wrt_dg (n : Nat) (h : 0 < n) : wrt (dg n) = Lib.decDigits n := by
  induction n using Nat.strongRecOn with
  | _ n ih =>
    rw [dg_pos h, wrt_cons]
    rcases Nat.lt_or_ge n 10 with h1 | h1
    · rw [decDigits_small h1, show n / 10 = 0 by omega, dg_zero, show n % 10 = n by omega]; rfl
    · rw [decDigits_big h1, ih (n / 10) (by omega) (by omega)]
/-- What the reference writes for a sign and a number. -/
def sgn (b : Bool) (n : Nat) : Int := if b then -(n : Int) else (n : Int)
theorem dec_sgn (b : Bool) (n : Nat) (h : 0 < n) : dec (sgn b n) = str ((if b then [45] else []) ++ Lib.decDigits n) := by
  cases b
  · rw [sgn, if_neg (by decide), dec, Lib.itoa, if_neg (by omega)]; rfl
  · rw [sgn, if_pos rfl, dec, Lib.itoa, if_pos (by omega)]
    have : (-(n : Int)).natAbs = n := by omega
    simp [this]
theorem dec_sgn0 (b : Bool) : dec (sgn b 0) = str [48] := by
  cases b
  · rw [sgn, if_neg (by decide), dec, Lib.itoa, if_neg (by omega)]
    simp [decDigits_zero]
  · rw [sgn, if_pos rfl, dec, Lib.itoa, if_neg (by omega)]
    simp [decDigits_zero]
theorem sgn_abs (b : Bool) (n : Nat) : (sgn b n).natAbs = n := by cases b <;> simp [sgn]
end Go.Proofs.YtgpncnnlhhmjaaaGreatDoor
