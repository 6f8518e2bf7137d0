/- The reference's arithmetic, digit by digit: plain maths. No program. -/
import Derived.Test.YtgpncnnlhhmjaaaGreatDoorDgt
namespace Go.Proofs.YtgpncnnlhhmjaaaGreatDoor
open Go

theorem dg_drop (n i : Nat) : (dg n).drop i = dg (n / 10 ^ i) := by
  induction i generalizing n with
  | zero => simp
  | succ i ih =>
    rcases Nat.eq_zero_or_pos n with h | h
    · subst h; simp [dg_zero]
    · rw [dg_pos h, List.drop_succ_cons, ih, Nat.div_div_eq_div_mul, Nat.pow_succ, Nat.mul_comm 10]
theorem dg_in (n i : Nat) : i < (dg n).length ↔ 0 < n / 10 ^ i := by
  have h := congrArg List.length (dg_drop n i)
  rw [List.length_drop] at h
  have h2 := dg_nil (n := n / 10 ^ i)
  have h3 : (dg (n / 10 ^ i)).length = 0 ↔ n / 10 ^ i = 0 := by rw [← h2]; exact List.length_eq_zero_iff
  generalize n / 10 ^ i = q at *
  omega
theorem dg_at {n i : Nat} (h : i < (dg n).length) : (dg n)[i]? = some (n / 10 ^ i % 10) := by
  have h1 : ((dg n).drop i)[0]? = (dg n)[i]? := by rw [List.getElem?_drop]; rfl
  rw [← h1, dg_drop, dg_pos ((dg_in n i).1 h)]; rfl
theorem div_next (n i : Nat) : n / 10 ^ (i + 1) = n / 10 ^ i / 10 := by rw [Nat.div_div_eq_div_mul, Nat.pow_succ]
theorem dg_take_val (n i : Nat) : valD ((dg n).take i) + 10 ^ i * (n / 10 ^ i) = n := by
  rcases Nat.lt_or_ge i (dg n).length with h | h
  · have h1 := valD_append ((dg n).take i) ((dg n).drop i)
    rw [List.take_append_drop, val_dg, dg_drop, val_dg, List.length_take, Nat.min_eq_left (by omega)] at h1
    omega
  · have : n / 10 ^ i = 0 := by have := dg_in n i; generalize n / 10 ^ i = q at *; omega
    rw [this, List.take_of_length_le h, val_dg]; omega

/-! ### order -/
def ordN (m n : Nat) : Int := if m < n then -1 else if m = n then 0 else 1
theorem ord_lt {m n : Nat} (h : m < n) : ordN m n = -1 := by rw [ordN, if_pos h]
theorem ord_eq {m n : Nat} (h : m = n) : ordN m n = 0 := by rw [ordN, if_neg (by omega), if_pos h]
theorem ord_gt {m n : Nat} (h : n < m) : ordN m n = 1 := by rw [ordN, if_neg (by omega), if_neg (by omega)]
theorem dlen_lt {m n : Nat} (h : (dg m).length < (dg n).length) : m < n := by
  have h1 := (dg_len m (dg m).length).1 (Nat.le_refl _)
  have h2 := mt (dg_len n (dg m).length).2 (by omega)
  omega
theorem top_lt {m n J : Nat} (h : m / 10 ^ (J + 1) = n / 10 ^ (J + 1)) (hx : m / 10 ^ J % 10 < n / 10 ^ J % 10) : m < n := by
  rw [div_next, div_next] at h
  rcases Nat.lt_or_ge m n with h1 | h1
  · exact h1
  · have := Nat.div_le_div_right (c := 10 ^ J) h1
    omega
theorem top_eq {m n J : Nat} (h : m / 10 ^ (J + 1) = n / 10 ^ (J + 1)) (hx : m / 10 ^ J % 10 = n / 10 ^ J % 10) : m / 10 ^ J = n / 10 ^ J := by
  rw [div_next, div_next] at h
  omega

/-! ### plus -/
/-- After i digits: what has been written, what is left. -/
def PlusAt (m n i c : Nat) (l : List Nat) : Prop := dg (m + n) = l ++ dg (m / 10 ^ i + n / 10 ^ i + c) ∧ l.length = i ∧ c ≤ 1
theorem plus_start (m n : Nat) : PlusAt m n 0 0 [] := ⟨by simp, rfl, by omega⟩
theorem plus_step {m n i c : Nat} {l : List Nat} (h : PlusAt m n i c l) (h0 : 0 < m / 10 ^ i + n / 10 ^ i + c) {s : Nat} (hs : s = c + m / 10 ^ i % 10 + n / 10 ^ i % 10) : PlusAt m n (i + 1) (s / 10) (l ++ [s % 10]) := by
  obtain ⟨h1, h2, h3⟩ := h
  refine ⟨?_, by rw [List.length_append, h2]; rfl, by omega⟩
  rw [h1, dg_pos h0, div_next, div_next, List.append_assoc, List.singleton_append]
  congr 2
  · omega
  · congr 1; omega
theorem plus_end {m n i c : Nat} {l : List Nat} (h : PlusAt m n i c l) (h0 : m / 10 ^ i + n / 10 ^ i + c = 0) : l = dg (m + n) := by
  rw [h.1, h0, dg_zero, List.append_nil]

/-! ### minus -/
def MinusAt (m n i b : Nat) (l : List Nat) : Prop := valD l + 10 ^ i * (m / 10 ^ i) = (m - n) + 10 ^ i * (n / 10 ^ i + b) ∧ l.length = i ∧ b ≤ 1 ∧ Small l
theorem minus_start {m n : Nat} (h : n ≤ m) : MinusAt m n 0 0 [] := ⟨by simp [valD]; omega, rfl, by omega, fun _ h => by cases h⟩
theorem minus_step {m n i b : Nat} {l : List Nat} (h : MinusAt m n i b l) {d b' : Nat} (hd : d + n / 10 ^ i % 10 + b = m / 10 ^ i % 10 + 10 * b') (h9 : d < 10) (hb : b' ≤ 1) : MinusAt m n (i + 1) b' (l ++ [d]) := by
  obtain ⟨h1, h2, h3, h4⟩ := h
  refine ⟨?_, by rw [List.length_append, h2]; rfl, hb, small_snoc h4 h9⟩
  rw [valD_append, h2, div_next, div_next, Nat.pow_succ, show valD [d] = d from by simp [valD]]
  generalize m / 10 ^ i = p at *
  generalize n / 10 ^ i = q at *
  generalize 10 ^ i = P at *
  have e : d + 10 * (p / 10) + (q + b) = p + 10 * (q / 10 + b') := by omega
  have e2 := congrArg (P * ·) e
  simp only [Nat.mul_add] at e2 h1 ⊢
  rw [Nat.mul_assoc P 10, Nat.mul_assoc P 10, Nat.mul_assoc P 10]
  omega
theorem minus_end {m n i b : Nat} {l : List Nat} (h : MinusAt m n i b l) (h0 : m / 10 ^ i = 0) : valD l = m - n := by
  obtain ⟨h1, h2, _, h4⟩ := h
  have h5 := valD_lt h4
  rw [h2] at h5
  rw [h0, Nat.mul_zero, Nat.add_zero] at h1
  rcases Nat.eq_zero_or_pos (n / 10 ^ i + b) with e | e
  · rw [e, Nat.mul_zero, Nat.add_zero] at h1; exact h1
  · have := Nat.le_mul_of_pos_right (10 ^ i) e
    omega

/-! ### a row that is written in place -/
theorem valD_set {l : List Nat} {j o : Nat} (h : l[j]? = some o) (v : Nat) : valD (l.set j v) + 10 ^ j * o = valD l + 10 ^ j * v := by
  induction l generalizing j with
  | nil => simp at h
  | cons d l ih =>
    match j with
    | 0 =>
      simp only [List.getElem?_cons_zero, Option.some.injEq] at h
      subst h
      simp only [List.set_cons_zero, valD, Nat.pow_zero, Nat.one_mul]
      omega
    | j + 1 =>
      have h1 := ih (j := j) (by simpa using h)
      simp only [List.set_cons_succ, valD, Nat.pow_succ]
      rw [Nat.mul_comm (10 ^ j) 10, Nat.mul_assoc, Nat.mul_assoc]
      omega
theorem set_small {l : List Nat} (h : Small l) (j : Nat) {v : Nat} (hv : v < 10) : Small (l.set j v) := fun x hx => by
  rcases List.mem_or_eq_of_mem_set hx with h1 | h1
  · exact h x h1
  · omega
theorem rep_small (k : Nat) : Small (List.replicate k 0) := fun x hx => by rw [(List.mem_replicate.1 hx).2]; omega
theorem val_rep (k : Nat) : valD (List.replicate k 0) = 0 := by
  induction k with
  | zero => rfl
  | succ k ih => rw [List.replicate_succ, valD, ih]

/-! ### times -/
def TimesAt (m n i : Nat) (O : List Nat) : Prop := valD O = (m % 10 ^ i) * n ∧ Small O
/-- Within a row: the digit x at place i, k digits of n done. -/
def TimesIn (m n i k c : Nat) (O : List Nat) : Prop := valD O + 10 ^ (i + k) * c + 10 ^ (i + k) * (m / 10 ^ i % 10 * (n / 10 ^ k)) = (m % 10 ^ (i + 1)) * n ∧ Small O ∧ c ≤ 9
theorem times_start (m n k : Nat) : TimesAt m n 0 (List.replicate k 0) := ⟨by rw [val_rep, Nat.pow_zero, Nat.mod_one, Nat.zero_mul], rep_small k⟩
theorem times_open {m n i : Nat} {O : List Nat} (h : TimesAt m n i O) : TimesIn m n i 0 0 O := by
  refine ⟨?_, h.2, by omega⟩
  rw [h.1, Nat.mod_pow_succ, Nat.add_mul, Nat.pow_zero, Nat.div_one, Nat.mul_zero, Nat.add_zero, Nat.add_zero, Nat.mul_assoc]
theorem times_step {m n i k c o s : Nat} {O : List Nat} (h : TimesIn m n i k c O) (ho : O[i + k]? = some o) (hs : s = o + c + m / 10 ^ i % 10 * (n / 10 ^ k % 10)) : TimesIn m n i (k + 1) (s / 10) (O.set (i + k) (s % 10)) ∧ s ≤ 99 := by
  obtain ⟨h1, h2, h3⟩ := h
  have ho9 := h2.at ho
  have hx : m / 10 ^ i % 10 ≤ 9 := by omega
  have hy : n / 10 ^ k % 10 ≤ 9 := by omega
  have hxy := Nat.mul_le_mul hx hy
  have hs9 : s ≤ 99 := by omega
  refine ⟨⟨?_, set_small h2 _ (by omega), by omega⟩, hs9⟩
  have hv := valD_set ho (s % 10)
  rw [div_next, show i + (k + 1) = i + k + 1 from rfl, Nat.pow_succ]
  rw [← h1]
  generalize m / 10 ^ i % 10 = x at *
  generalize n / 10 ^ k = q at *
  generalize 10 ^ (i + k) = P at *
  have e : 10 * (s / 10) + s % 10 = s := by omega
  have e1 := congrArg (P * ·) e
  have e2 : x * q = x * (q % 10) + 10 * (x * (q / 10)) := by
    rw [← Nat.mul_left_comm x 10, ← Nat.mul_add]; congr 1; omega
  rw [e2, Nat.mul_assoc P 10, Nat.mul_assoc P 10]
  have e3 := congrArg (P * ·) hs
  simp only [Nat.mul_add] at e1 e3 ⊢
  omega
/-- A carry behind the last digit falls on the next place. -/
theorem times_in {m n i k c : Nat} {O : List Nat} (h : TimesIn m n i k c O) (hc : 0 < c) (hk : (dg n).length ≤ k) : k = (dg n).length := by
  obtain ⟨h1, _, _⟩ := h
  have hn := (dg_len n (dg n).length).1 (Nat.le_refl _)
  have hm := Nat.mod_lt m (Nat.pow_pos (n := i + 1) (show 0 < 10 by decide))
  have h3 : (m % 10 ^ (i + 1)) * n ≤ 10 ^ (i + 1) * n := Nat.mul_le_mul_right _ (Nat.le_of_lt hm)
  have h4 : 10 ^ (i + 1) * n < 10 ^ (i + 1) * 10 ^ (dg n).length := Nat.mul_lt_mul_of_pos_left hn (Nat.pow_pos (by decide))
  rw [← Nat.pow_add] at h4
  have h5 : 10 ^ (i + k) ≤ 10 ^ (i + k) * c := Nat.le_mul_of_pos_right _ hc
  have h6 : 10 ^ (i + k) < 10 ^ (i + 1 + (dg n).length) := by omega
  have h7 := (Nat.pow_lt_pow_iff_right (show 1 < 10 by decide)).1 h6
  omega
theorem times_shut {m n i k : Nat} {O : List Nat} (h : TimesIn m n i k 0 O) (hk : (dg n).length ≤ k) : TimesAt m n (i + 1) O := by
  obtain ⟨h1, h2, _⟩ := h
  have : n / 10 ^ k = 0 := by have := dg_in n k; generalize n / 10 ^ k = q at *; omega
  rw [this, Nat.mul_zero, Nat.mul_zero, Nat.mul_zero, Nat.add_zero, Nat.add_zero] at h1
  exact ⟨h1, h2⟩
theorem times_end {m n i : Nat} {O : List Nat} (h : TimesAt m n i O) (hi : (dg m).length ≤ i) : valD O = m * n := by
  rw [h.1, Nat.mod_eq_of_lt ((dg_len m i).1 hi)]

/-! ### divided -/
/-- The digits above place k have been divided. -/
def DivAt (m n k : Nat) (Q : List Nat) : Prop := valD Q = 10 ^ k * (m / 10 ^ k / n) ∧ Small Q ∧ ∀ j, j < k → j < Q.length → Q[j]? = some 0
/-- At place i: n has been taken away c times; R is left. -/
def DivIn (m n i c R : Nat) (Q : List Nat) : Prop := valD Q = 10 ^ i * (10 * (m / 10 ^ (i + 1) / n) + c) ∧ Small Q ∧ (∀ j, j < i → j < Q.length → Q[j]? = some 0) ∧ Q[i]? = some c ∧ R + c * n = 10 * (m / 10 ^ (i + 1) % n) + m / 10 ^ i % 10
theorem ddiv_start (m n k : Nat) (h : m < 10 ^ k) : DivAt m n k (List.replicate k 0) := by
  refine ⟨by rw [val_rep, Nat.div_eq_of_lt h, Nat.zero_div, Nat.mul_zero], rep_small k, fun j hj _ => by rw [List.getElem?_replicate, if_pos hj]⟩
theorem div_open {m n i : Nat} {Q : List Nat} (h : DivAt m n (i + 1) Q) (hi : i < Q.length) : DivIn m n i 0 (10 * (m / 10 ^ (i + 1) % n) + m / 10 ^ i % 10) Q := by
  obtain ⟨h1, h2, h3⟩ := h
  refine ⟨?_, h2, fun j hj hl => h3 j (by omega) hl, h3 i (by omega) hi, by omega⟩
  rw [h1]
  generalize m / 10 ^ (i + 1) / n = q
  rw [Nat.pow_succ, Nat.mul_assoc]
  rfl
theorem div_less {m n i c R : Nat} {Q : List Nat} (h : DivIn m n i c R Q) (hn : 0 < n) (hR : n ≤ R) : c + 1 ≤ 9 := by
  obtain ⟨_, _, _, _, h1⟩ := h
  have h2 := Nat.mod_lt (m / 10 ^ (i + 1)) hn
  rcases Nat.lt_or_ge c 9 with h3 | h3
  · omega
  · have := Nat.mul_le_mul_right n h3
    omega
theorem div_take {m n i c R : Nat} {Q : List Nat} (h : DivIn m n i c R Q) (hn : 0 < n) (hR : n ≤ R) : DivIn m n i (c + 1) (R - n) (Q.set i (c + 1)) := by
  have hc := div_less h hn hR
  obtain ⟨h1, h2, h3, h4, h5⟩ := h
  refine ⟨?_, set_small h2 _ (by omega), fun j hj hl => ?_, ?_, by rw [Nat.add_mul]; omega⟩
  · have hv := valD_set h4 (c + 1)
    rw [h1] at hv
    simp only [Nat.mul_add] at hv ⊢
    omega
  · rw [List.getElem?_set_ne (by omega)]; exact h3 j hj (by rwa [List.length_set] at hl)
  · have hl : i < Q.length := by
      rcases Nat.lt_or_ge i Q.length with k | k
      · exact k
      · rw [List.getElem?_eq_none k] at h4; cases h4
    rw [List.getElem?_set_self hl]
theorem div_shut {m n i c R : Nat} {Q : List Nat} (h : DivIn m n i c R Q) (hR : R < n) : DivAt m n i Q ∧ R = m / 10 ^ i % n := by
  obtain ⟨h1, h2, h3, _, h5⟩ := h
  have e : m / 10 ^ i = (10 * (m / 10 ^ (i + 1) / n) + c) * n + R := by
    have h6 := Nat.div_add_mod (m / 10 ^ (i + 1)) n
    rw [div_next] at h5 h6 ⊢
    generalize m / 10 ^ i = p at *
    rw [Nat.add_mul, Nat.mul_assoc, Nat.mul_comm (p / 10 / n) n]
    omega
  have e1 : m / 10 ^ i / n = 10 * (m / 10 ^ (i + 1) / n) + c := by
    rw [e, Nat.mul_comm, Nat.mul_add_div (by omega), Nat.div_eq_of_lt hR, Nat.add_zero]
  refine ⟨⟨by rw [h1, e1], h2, h3⟩, ?_⟩
  rw [e, Nat.mul_comm, Nat.mul_add_mod, Nat.mod_eq_of_lt hR]
theorem div_end {m n : Nat} {Q : List Nat} (h : DivAt m n 0 Q) : valD Q = m / n := by rw [h.1, Nat.pow_zero, Nat.one_mul, Nat.div_one]
/-- One more digit in front of a remainder. -/
theorem front_val (d R : Nat) : valD (d :: dg R) = 10 * R + d := by rw [valD, val_dg]; omega
theorem front_small {d R : Nat} (h : d < 10) : Small (d :: dg R) := fun x hx => by
  rcases List.mem_cons.1 hx with h1 | h1
  · omega
  · exact dg_small R x h1

/-! ### root -/
def Sq (n i t : Nat) : Prop := (10 ^ i * t) * (10 ^ i * t) ≤ n
def Up (n i t : Nat) : Prop := n < (10 ^ i * (t + 1)) * (10 ^ i * (t + 1))
def RtAt (n k T : Nat) (O : List Nat) : Prop := valD O = 10 ^ k * T ∧ Small O ∧ (∀ j, j < k → j < O.length → O[j]? = some 0) ∧ Sq n k T ∧ Up n k T
def RtIn (n i T c : Nat) (O : List Nat) : Prop := valD O = 10 ^ i * (10 * T + c) ∧ Small O ∧ (∀ j, j < i → j < O.length → O[j]? = some 0) ∧ O[i]? = some c ∧ Sq n (i + 1) T ∧ Up n i (10 * T + c)
theorem pow_ten (i T : Nat) : 10 ^ (i + 1) * T = 10 ^ i * (10 * T) := by rw [Nat.pow_succ, Nat.mul_assoc]
theorem rt_start (n k : Nat) (h : (dg n).length ≤ 2 * k) : RtAt n k 0 (List.replicate k 0) := by
  refine ⟨by rw [val_rep, Nat.mul_zero], rep_small k, fun j hj _ => by rw [List.getElem?_replicate, if_pos hj], by simp [Sq], ?_⟩
  have := (dg_len n (2 * k)).1 h
  rw [Up, Nat.zero_add, Nat.mul_one, ← Nat.pow_add]
  rwa [Nat.two_mul] at this
theorem rt_open {n i T : Nat} {O : List Nat} (h : RtAt n (i + 1) T O) (hi : i < O.length) : RtIn n i T 9 (O.set i 9) := by
  obtain ⟨h1, h2, h3, h4, h5⟩ := h
  have h0 := h3 i (by omega) hi
  refine ⟨?_, set_small h2 _ (by omega), fun j hj hl => ?_, by rw [List.getElem?_set_self hi], h4, ?_⟩
  · have hv := valD_set h0 9
    rw [h1, pow_ten] at hv
    rw [Nat.mul_add]; omega
  · rw [List.getElem?_set_ne (by omega)]; exact h3 j (by omega) (by rwa [List.length_set] at hl)
  · rw [Up, pow_ten] at h5
    exact h5
theorem rt_less {n i T c : Nat} {O : List Nat} (h : RtIn n i T (c + 1) O) (hg : n < valD O * valD O) : RtIn n i T c (O.set i c) := by
  obtain ⟨h1, h2, h3, h4, h5, h6⟩ := h
  have hl : i < O.length := by
    rcases Nat.lt_or_ge i O.length with k | k
    · exact k
    · rw [List.getElem?_eq_none k] at h4; cases h4
  have hc := h2.at h4
  refine ⟨?_, set_small h2 _ (by omega), fun j hj hl => ?_, by rw [List.getElem?_set_self hl], h5, ?_⟩
  · have hv := valD_set h4 c
    rw [h1] at hv
    simp only [Nat.mul_add] at hv ⊢
    omega
  · rw [List.getElem?_set_ne (by omega)]; exact h3 j hj (by rwa [List.length_set] at hl)
  · rw [h1] at hg; exact hg
theorem rt_shut {n i T c : Nat} {O : List Nat} (h : RtIn n i T c O) (hs : c = 0 ∨ valD O * valD O ≤ n) : RtAt n i (10 * T + c) O := by
  obtain ⟨h1, h2, h3, h4, h5, h6⟩ := h
  refine ⟨h1, h2, h3, ?_, h6⟩
  rcases hs with rfl | hs
  · rw [Sq, pow_ten] at h5; exact h5
  · rw [h1] at hs; exact hs
theorem rt_end {n T : Nat} {O : List Nat} (h : RtAt n 0 T O) : valD O = rt n := by
  obtain ⟨h1, _, _, h4, h5⟩ := h
  rw [Nat.pow_zero, Nat.one_mul] at h1
  rw [Sq, Nat.pow_zero, Nat.one_mul] at h4
  rw [Up, Nat.pow_zero, Nat.one_mul] at h5
  rw [h1, rt_unique h4 h5]
end Go.Proofs.YtgpncnnlhhmjaaaGreatDoor
