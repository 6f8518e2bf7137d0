/- What the functions of the chapter answer: plain functions of lists of bytes; long division and the root, group by group. No program. -/
import Derived.Test.YtnehkoedmcnjoaaGreatDoorRead
namespace Go.Proofs.YtnehkoedmcnjoaaGreatDoor
open Go

/-- The greatest number whose square is at most n. -/
def rt (n : Nat) : Nat := if h : n = 0 then 0 else (fun r => if (r + 1) * (r + 1) ≤ n then r + 1 else r) (2 * rt (n / 4))
termination_by n
decreasing_by omega
theorem rt_spec (n : Nat) : rt n * rt n ≤ n ∧ n < (rt n + 1) * (rt n + 1) := by
  induction n using Nat.strongRecOn with
  | _ n ih =>
    rw [rt]
    by_cases h : n = 0
    · subst h; simp
    · rw [dif_neg h]
      obtain ⟨h1, h2⟩ := ih (n / 4) (by omega)
      generalize rt (n / 4) = q at *
      show (if (2 * q + 1) * (2 * q + 1) ≤ n then 2 * q + 1 else 2 * q) * (if (2 * q + 1) * (2 * q + 1) ≤ n then 2 * q + 1 else 2 * q) ≤ n ∧ n < ((if (2 * q + 1) * (2 * q + 1) ≤ n then 2 * q + 1 else 2 * q) + 1) * ((if (2 * q + 1) * (2 * q + 1) ≤ n then 2 * q + 1 else 2 * q) + 1)
      have e1 : (2 * q) * (2 * q) = 4 * (q * q) := by rw [Nat.mul_mul_mul_comm]
      have e2 : (2 * q + 1 + 1) * (2 * q + 1 + 1) = 4 * ((q + 1) * (q + 1)) := by rw [show 2 * q + 1 + 1 = 2 * (q + 1) by omega, Nat.mul_mul_mul_comm]
      split
      · rename_i h3; exact ⟨h3, by rw [e2]; omega⟩
      · rename_i h3; exact ⟨by rw [e1]; omega, by omega⟩
theorem sq_lt {a b : Nat} (h : a * a < (b + 1) * (b + 1)) : a ≤ b := by
  rcases Nat.lt_or_ge b a with h1 | h1
  · have := Nat.mul_le_mul (show b + 1 ≤ a from h1) (show b + 1 ≤ a from h1); omega
  · exact h1
theorem rt_unique {n r : Nat} (h1 : r * r ≤ n) (h2 : n < (r + 1) * (r + 1)) : r = rt n := by
  obtain ⟨h3, h4⟩ := rt_spec n
  exact Nat.le_antisymm (sq_lt (Nat.lt_of_le_of_lt h1 h4)) (sq_lt (Nat.lt_of_le_of_lt h3 h2))
theorem rt_le (n : Nat) : rt n ≤ n := by
  obtain ⟨h1, _⟩ := rt_spec n
  rcases Nat.eq_zero_or_pos (rt n) with h | h
  · omega
  · exact Nat.le_trans (Nat.le_mul_of_pos_left _ h) h1

/-! ### a group of a quotient, of a root -/
/-- The greatest group whose amount is at most s. -/
def most (f : Nat → Nat) (s : Nat) : Nat := (List.range 9999).countP fun i => !decide (s < f (i + 1))
theorem countP_prefix (p : Nat → Bool) (q : Nat) : ∀ n, q ≤ n → (∀ i, i < q → p i = true) → (∀ i, q ≤ i → i < n → p i = false) → (List.range n).countP p = q
  | 0, h, _, _ => by simp; omega
  | n + 1, h, h1, h2 => by
    rw [List.range_succ, List.countP_append]
    by_cases hq : q = n + 1
    · subst hq
      have : (List.range n).countP p = n := by
        have := countP_prefix p n n (Nat.le_refl _) (fun i hi => h1 i (by omega)) (fun i a b => by omega)
        exact this
      rw [this, List.countP_cons, h1 n (by omega)]; simp
    · rw [countP_prefix p q n (by omega) h1 (fun i a b => h2 i a (by omega)), List.countP_cons, h2 n (by omega) (by omega)]; simp
theorem most_eq (f : Nat → Nat) (s q : Nat) (hq : q ≤ 9999) (hmono : ∀ a b, a ≤ b → b ≤ 9999 → f a ≤ f b) (h1 : f q ≤ s) (h2 : q < 9999 → s < f (q + 1)) : most f s = q := by
  unfold most
  refine countP_prefix _ q 9999 hq (fun i hi => ?_) (fun i hi hn => ?_)
  · have := hmono (i + 1) q (by omega) hq
    simp; omega
  · have := hmono (q + 1) (i + 1) (by omega) (by omega)
    have := h2 (by omega)
    simp; omega
theorem most_le (f : Nat → Nat) (s : Nat) : most f s ≤ 9999 := by
  unfold most
  exact Nat.le_trans List.countP_le_length (by simp)
theorem most_div (b s : Nat) (hb : 0 < b) (hs : s < b * 10000) : most (fun g => b * g) s = s / b := by
  have h1 : s / b < 10000 := by rw [Nat.div_lt_iff_lt_mul hb, Nat.mul_comm]; exact hs
  refine most_eq _ _ _ (by omega) (fun a c hac _ => Nat.mul_le_mul_left _ hac) (Nat.mul_div_le s b) (fun _ => ?_)
  exact Nat.lt_mul_div_succ s hb
/-- One more group of a quotient. -/
theorem div_step (b v r g q : Nat) (hb : 0 < b) (hr : r < b) (hv : v = q * b + r) (hg : g < 10000) :
    r * 10000 + g < b * 10000 ∧ v * 10000 + g = (q * 10000 + (r * 10000 + g) / b) * b + (r * 10000 + g) % b ∧ (r * 10000 + g) % b < b := by
  refine ⟨by omega, ?_, Nat.mod_lt _ hb⟩
  have h := Nat.div_add_mod (r * 10000 + g) b
  rw [Nat.add_mul, Nat.mul_comm ((r * 10000 + g) / b) b, hv, Nat.add_mul, Nat.mul_right_comm q b 10000]
  omega
theorem most_root (r s : Nat) (hs : s < (2 * r + 1) * 100000000) : ∃ g, g ≤ 9999 ∧ most (fun g => (r * 2 * 10000 + g) * g) s = g ∧ (r * 2 * 10000 + g) * g ≤ s ∧ s < (r * 2 * 10000 + (g + 1)) * (g + 1) := by
  have hm : ∀ a b, a ≤ b → (r * 2 * 10000 + a) * a ≤ (r * 2 * 10000 + b) * b := fun a b h => Nat.mul_le_mul (by omega) h
  have key : ∀ k, k ≤ 10000 → s < (r * 2 * 10000 + k) * k → ∃ g, g < k ∧ (r * 2 * 10000 + g) * g ≤ s ∧ s < (r * 2 * 10000 + (g + 1)) * (g + 1) := by
    intro k
    induction k with
    | zero => intro _ h; simp at h
    | succ k ih =>
      intro hk h
      by_cases h1 : s < (r * 2 * 10000 + k) * k
      · obtain ⟨g, hg, h2, h3⟩ := ih (by omega) h1
        exact ⟨g, by omega, h2, h3⟩
      · exact ⟨k, by omega, by omega, h⟩
  have h0 : (r * 2 * 10000 + 10000) * 10000 = (2 * r + 1) * 100000000 := by rw [Nat.add_mul, Nat.mul_assoc, Nat.mul_assoc]; omega
  obtain ⟨g, hg, h1, h2⟩ := key 10000 (Nat.le_refl _) (by rw [h0]; exact hs)
  exact ⟨g, by omega, most_eq _ _ _ (by omega) (fun a b h _ => hm a b h) h1 (fun _ => h2), h1, h2⟩
theorem root_sq (r g : Nat) : (r * 10000 + g) * (r * 10000 + g) = r * r * 100000000 + (r * 2 * 10000 + g) * g := by
  rw [Nat.add_mul, Nat.mul_add, Nat.mul_add, Nat.add_mul, Nat.mul_mul_mul_comm]
  have e1 : r * 10000 * g = 10000 * (r * g) := by rw [Nat.mul_right_comm, Nat.mul_comm]
  have e2 : g * (r * 10000) = 10000 * (r * g) := by rw [Nat.mul_comm, e1]
  have e3 : r * 2 * 10000 * g = 20000 * (r * g) := by rw [Nat.mul_assoc r, Nat.mul_right_comm, Nat.mul_comm]
  omega
/-- Where the root stands when some groups of the number v have been read: pairs of groups give one of the root. -/
def RootAt (even : Bool) (v r s : Nat) : Prop := if even then v = r * r + s ∧ s ≤ 2 * r else v = r * r * 10000 + s ∧ s < (2 * r + 1) * 10000
theorem root_open {v r s g : Nat} (h : RootAt true v r s) (hg : g < 10000) : RootAt false (v * 10000 + g) r (s * 10000 + g) := by
  simp only [RootAt, if_true] at h
  simp only [RootAt, Bool.false_eq_true, if_false]
  omega
theorem root_shut {v r s g : Nat} (h : RootAt false v r s) (hg : g < 10000) :
    ∃ x, x ≤ 9999 ∧ most (fun g => (r * 2 * 10000 + g) * g) (s * 10000 + g) = x ∧ (r * 2 * 10000 + x) * x ≤ s * 10000 + g ∧ RootAt true (v * 10000 + g) (r * 10000 + x) (s * 10000 + g - (r * 2 * 10000 + x) * x) := by
  simp only [RootAt, Bool.false_eq_true, if_false] at h
  obtain ⟨x, hx, h1, h2, h3⟩ := most_root r (s * 10000 + g) (by omega)
  refine ⟨x, hx, h1, h2, ?_⟩
  simp only [RootAt, if_true]
  rw [root_sq]
  have e : (r * 2 * 10000 + (x + 1)) * (x + 1) = (r * 2 * 10000 + x) * x + r * 2 * 10000 + 2 * x + 1 := by
    rw [Nat.mul_add, Nat.mul_one, ← Nat.add_assoc (r * 2 * 10000) x 1, Nat.add_mul (r * 2 * 10000 + x) 1 x]; omega
  omega
theorem root_done {v r s : Nat} (h : RootAt true v r s) : r = rt v := by
  simp only [RootAt, if_true] at h
  refine rt_unique (by omega) ?_
  have : (r + 1) * (r + 1) = r * r + 2 * r + 1 := by rw [Nat.add_mul, Nat.mul_add]; omega
  omega
theorem root_start (even : Bool) : RootAt even 0 0 0 := by unfold RootAt; split <;> simp

/-! ### the answers -/
/-- An integer as a Go string. -/
def str (l : List UInt8) : ByteArray := ⟨l.toArray⟩
def dec (z : Int) : ByteArray := str (Lib.itoa z)
theorem str_list (l : List UInt8) : (str l).data.toList = l := rfl
theorem str_inj {a b : List UInt8} (h : str a = str b) : a = b := by have := congrArg (fun s => s.data.toList) h; exact this
theorem str_self (s : ByteArray) : str s.data.toList = s := rfl
/-- What a number leads to: ErrInteger where it has too many digits. -/
def outT (z : Int) : ByteArray := if fits z then dec z else ByteArray.empty
def outE (z : Int) : Int := if fits z then 0 else 30
def both (a b : ByteArray) : Bool := validB a.data.toList && validB b.data.toList
def numB (a : ByteArray) : Int := num a.data.toList
def opT (f : Int → Int → Int) (a b : ByteArray) : ByteArray := if both a b then outT (f (numB a) (numB b)) else ByteArray.empty
def opE (f : Int → Int → Int) (a b : ByteArray) : Int := if both a b then outE (f (numB a) (numB b)) else 30
def cmpS (a b : ByteArray) : Int := if both a b then cmpI (numB a) (numB b) else 0
theorem valid_dec (z : Int) : validB (dec z).data.toList = fits z := valid_itoa z
theorem num_dec (z : Int) : numB (dec z) = z := num_itoa z
theorem dec_numB (a : ByteArray) (h : validB a.data.toList = true) : dec (numB a) = a := by
  unfold dec numB; rw [itoa_num _ h]; rfl
theorem dec_inj {a b : Int} (h : dec a = dec b) : a = b := itoa_inj (str_inj h)
end Go.Proofs.YtnehkoedmcnjoaaGreatDoor
