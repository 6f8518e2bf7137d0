/- Decimal numerals: lists of bytes and the numbers that they are. No program. -/
import Derived.Lib.ItoaNum
import Derived.Lib.ParseIntB
namespace Go.Proofs.YtnehkoedmcnjoaaGreatDoor
open Go

def dig (b : UInt8) : Bool := decide (48 ≤ b.toNat) && decide (b.toNat ≤ 57)
def stepV (a : Nat) (b : UInt8) : Nat := a * 10 + (b.toNat - 48)
def valA (a : Nat) (l : List UInt8) : Nat := l.foldl stepV a
theorem valA_nil (a : Nat) : valA a [] = a := rfl
theorem valA_cons (a : Nat) (b : UInt8) (r : List UInt8) : valA a (b :: r) = valA (a * 10 + (b.toNat - 48)) r := by unfold valA; rw [List.foldl_cons, stepV]
def val (l : List UInt8) : Nat := valA 0 l
def canN (l : List UInt8) : Bool := l.all dig && (l == [48] || (l != [] && l.head? != some 48))
def isNeg (l : List UInt8) : Bool := l.head? == some 45
def mag (l : List UInt8) : List UInt8 := if isNeg l then l.tail else l
/-- A valid integer. -/
def validB (l : List UInt8) : Bool := canN (mag l) && decide ((mag l).length ≤ 200) && (!isNeg l || mag l != [48])
/-- The number that a valid integer is. -/
def num (l : List UInt8) : Int := if isNeg l then -(val (mag l) : Int) else (val (mag l) : Int)
/-- The numbers of at most 200 digits. -/
def lim : Nat := 10 ^ 200
def fits (z : Int) : Bool := decide (z.natAbs < lim)

theorem valA_append (a : Nat) (l r : List UInt8) : valA a (l ++ r) = valA (valA a l) r := by
  induction l generalizing a with
  | nil => rfl
  | cons b l ih => rw [List.cons_append, valA_cons, valA_cons]; exact ih _
theorem val_snoc (l : List UInt8) (b : UInt8) : val (l ++ [b]) = val l * 10 + (b.toNat - 48) := by rw [val, valA_append, valA_cons, valA_nil]; rfl
theorem dig_ge {b : UInt8} (h : dig b = true) : 48 ≤ b.toNat ∧ b.toNat ≤ 57 := by simpa [dig] using h
theorem valA_lt (a : Nat) (l : List UInt8) (h : l.all dig = true) : valA a l < (a + 1) * 10 ^ l.length := by
  induction l generalizing a with
  | nil => simp [valA_nil]
  | cons b l ih =>
    simp only [List.all_cons, Bool.and_eq_true] at h
    have hb := dig_ge h.1
    have h1 := ih (a * 10 + (b.toNat - 48)) h.2
    have h2 : (a * 10 + (b.toNat - 48) + 1) * 10 ^ l.length ≤ (a * 10 + 10) * 10 ^ l.length := Nat.mul_le_mul_right _ (by omega)
    have h3 : (a * 10 + 10) * 10 ^ l.length = (a + 1) * 10 ^ (l.length + 1) := by rw [Nat.pow_succ, show a * 10 + 10 = (a + 1) * 10 by omega, Nat.mul_assoc, Nat.mul_comm 10]
    rw [valA_cons, List.length_cons, ← h3]
    exact Nat.lt_of_lt_of_le h1 h2
theorem val_lt (l : List UInt8) (h : l.all dig = true) : val l < 10 ^ l.length := by simpa [val] using valA_lt 0 l h
theorem valA_ge (a : Nat) (l : List UInt8) : a ≤ valA a l := by
  induction l generalizing a with
  | nil => exact Nat.le_refl _
  | cons b l ih => rw [valA_cons]; exact Nat.le_trans (by omega) (ih _)

theorem ofNat_toNat {n : Nat} (h : n < 256) : (UInt8.ofNat n).toNat = n := by simp [UInt8.toNat_ofNat']; omega
theorem decDigits_small {n : Nat} (h : n < 10) : Lib.decDigits n = [UInt8.ofNat (48 + n)] := by rw [Lib.decDigits, dif_pos h]
theorem decDigits_big {n : Nat} (h : 10 ≤ n) : Lib.decDigits n = Lib.decDigits (n / 10) ++ [UInt8.ofNat (48 + n % 10)] := by rw [Lib.decDigits, dif_neg (by omega)]
theorem decDigits_ne (n : Nat) : Lib.decDigits n ≠ [] := by
  rw [Lib.decDigits]; split <;> simp
theorem val_decDigits (n : Nat) : val (Lib.decDigits n) = n := by
  induction n using Nat.strongRecOn with
  | _ n ih =>
    by_cases h : n < 10
    · rw [decDigits_small h]; simp only [val, valA_cons, valA_nil]; rw [ofNat_toNat (by omega)]; omega
    · rw [decDigits_big (by omega), val_snoc, ih _ (by omega), ofNat_toNat (by omega)]; omega
theorem dig_ofNat {n : Nat} (h : n < 10) : dig (UInt8.ofNat (48 + n)) = true := by
  simp only [dig, Bool.and_eq_true, decide_eq_true_eq]; rw [ofNat_toNat (by omega)]; omega
theorem decDigits_all (n : Nat) : (Lib.decDigits n).all dig = true := by
  induction n using Nat.strongRecOn with
  | _ n ih =>
    by_cases h : n < 10
    · rw [decDigits_small h, List.all_cons, List.all_nil, dig_ofNat h]; rfl
    · rw [decDigits_big (by omega), List.all_append, ih _ (by omega), List.all_cons, List.all_nil, dig_ofNat (show n % 10 < 10 by omega)]; rfl
theorem decDigits_head (n : Nat) (hn : 0 < n) : (Lib.decDigits n).head? ≠ some 48 := by
  induction n using Nat.strongRecOn with
  | _ n ih =>
    by_cases h : n < 10
    · rw [decDigits_small h]
      intro hc
      have h1 : (UInt8.ofNat (48 + n)).toNat = 48 := by
        have h0 : UInt8.ofNat (48 + n) = 48 := by simpa using hc
        rw [h0]; rfl
      rw [ofNat_toNat (by omega)] at h1
      omega
    · rw [decDigits_big (by omega), List.head?_append]
      have h1 := ih (n / 10) (by omega) (by omega)
      match hd : Lib.decDigits (n / 10), decDigits_ne (n / 10) with
      | b :: r, _ => rw [hd] at h1; simpa using h1
theorem decDigits_zero : Lib.decDigits 0 = [48] := by rw [decDigits_small (by decide)]; rfl
theorem canN_decDigits (n : Nat) : canN (Lib.decDigits n) = true := by
  simp only [canN, decDigits_all, Bool.true_and, Bool.or_eq_true, beq_iff_eq, Bool.and_eq_true, bne_iff_ne]
  rcases Nat.eq_zero_or_pos n with rfl | h
  · exact .inl decDigits_zero
  · exact .inr ⟨decDigits_ne n, decDigits_head n h⟩
theorem valA_pos (l : List UInt8) (h : l.all dig = true) (h0 : l ≠ []) (h1 : l.head? ≠ some 48) : 0 < val l := by
  match l, h0 with
  | b :: r, _ =>
    simp only [List.all_cons, Bool.and_eq_true] at h
    have hb := dig_ge h.1
    have : b.toNat ≠ 48 := fun e => h1 (by simp only [List.head?_cons, Option.some.injEq]; exact UInt8.toNat_inj.1 e)
    simp only [val, valA_cons, valA_nil]
    have := valA_ge (0 * 10 + (b.toNat - 48)) r
    omega
/-- A numeral without zeros in front is the one that is written for its number. -/
theorem dec_val : ∀ (k : Nat) (l : List UInt8), l.length = k → canN l = true → Lib.decDigits (val l) = l
  | 0, l, hk, h => by
    obtain rfl := List.length_eq_zero_iff.1 hk
    simp [canN] at h
  | 1, l, hk, h => by
    match l, hk with
    | [b], _ =>
      simp only [canN, List.all_cons, List.all_nil, Bool.and_true, Bool.and_eq_true] at h
      have hb := dig_ge h.1
      simp only [val, valA_cons, valA_nil, Nat.zero_mul, Nat.zero_add]
      rw [decDigits_small (by omega), show 48 + (b.toNat - 48) = b.toNat by omega]
      simp
  | k + 2, l, hk, h => by
    obtain ⟨r, b, rfl⟩ : ∃ r b, l = r ++ [b] := ⟨l.dropLast, l.getLast (by intro e; simp [e] at hk), (List.dropLast_concat_getLast _).symm⟩
    rw [List.length_append] at hk
    have hr : r.length = k + 1 := by simpa using hk
    simp only [canN, List.all_append, List.all_cons, List.all_nil, Bool.and_true, Bool.and_eq_true, Bool.or_eq_true, beq_iff_eq, bne_iff_ne] at h
    obtain ⟨⟨ha, hb⟩, hh⟩ := h
    have hrn : r ≠ [] := by intro e; rw [e] at hr; simp at hr
    have hhead : r.head? ≠ some 48 := by
      rcases hh with h1 | ⟨_, h1⟩
      · have : (r ++ [b]).length = 1 := by rw [h1]; rfl
        simp [hr] at this
      · match r, hrn with
        | c :: r', _ => simpa using h1
    have hcan : canN r = true := by simp [canN, ha, hrn, hhead]
    have hp := valA_pos r ha hrn hhead
    have hb' := dig_ge hb
    rw [val_snoc, decDigits_big (by omega), show (val r * 10 + (b.toNat - 48)) / 10 = val r by omega, show 48 + (val r * 10 + (b.toNat - 48)) % 10 = b.toNat by omega, dec_val (k + 1) r hr hcan]
    simp
theorem nDigits_le : ∀ (k n : Nat), n < 10 ^ (k + 1) → Lib.nDigits n ≤ k + 1
  | 0, n, h => by rw [Lib.nDigits_small (by simpa using h)]; exact Nat.le_refl _
  | k + 1, n, h => by
    by_cases h0 : n < 10
    · rw [Lib.nDigits_small h0]; omega
    · rw [Lib.nDigits_big h0]
      have := nDigits_le k (n / 10) (by rw [Nat.pow_succ] at h; omega)
      omega
theorem decDigits_len_le (n k : Nat) : (Lib.decDigits n).length ≤ k + 1 ↔ n < 10 ^ (k + 1) := by
  rw [Lib.decDigits_length]
  constructor
  · intro h
    exact Nat.lt_of_lt_of_le (Lib.lt_pow_nDigits n) (Nat.pow_le_pow_right (by decide) h)
  · exact nDigits_le k n
theorem head_not_minus (n : Nat) : (Lib.decDigits n).head? ≠ some 45 := by
  have h := decDigits_all n
  match hd : Lib.decDigits n, decDigits_ne n with
  | b :: r, _ =>
    rw [hd] at h
    simp only [List.all_cons, Bool.and_eq_true] at h
    have := dig_ge h.1
    intro e
    simp only [List.head?_cons, Option.some.injEq] at e
    rw [e] at this
    exact absurd this.1 (by decide)
theorem isNeg_dec (n : Nat) : isNeg (Lib.decDigits n) = false := by simpa [isNeg] using head_not_minus n
theorem mag_dec (n : Nat) : mag (Lib.decDigits n) = Lib.decDigits n := by simp [mag, isNeg_dec]
theorem isNeg_itoa (z : Int) : isNeg (Lib.itoa z) = decide (z < 0) := by
  unfold Lib.itoa
  split
  · simp [isNeg, *]
  · rw [isNeg_dec]; simp; omega
theorem mag_itoa (z : Int) : mag (Lib.itoa z) = Lib.decDigits z.natAbs := by
  unfold mag
  rw [isNeg_itoa]
  unfold Lib.itoa
  by_cases h : z < 0
  · simp [h]
  · simp [h]; congr 1; omega
theorem num_itoa (z : Int) : num (Lib.itoa z) = z := by
  unfold num
  rw [isNeg_itoa, mag_itoa, val_decDigits]
  by_cases h : z < 0 <;> simp [h] <;> omega
theorem valid_itoa (z : Int) : validB (Lib.itoa z) = fits z := by
  unfold validB fits
  rw [isNeg_itoa, mag_itoa, canN_decDigits]
  have h1 := decDigits_len_le z.natAbs 199
  simp only [Bool.true_and]
  have h2 : (!decide (z < 0) || Lib.decDigits z.natAbs != [48]) = true := by
    simp only [Bool.or_eq_true, Bool.not_eq_true', decide_eq_false_iff_not, bne_iff_ne]
    by_cases h : z < 0
    · right
      intro e
      have := decDigits_head z.natAbs (by omega)
      rw [e] at this
      exact this rfl
    · exact .inl h
  rw [h2, Bool.and_true]
  exact decide_eq_decide.2 h1
theorem itoa_num (l : List UInt8) (h : validB l = true) : Lib.itoa (num l) = l := by
  simp only [validB, Bool.and_eq_true, Bool.or_eq_true, Bool.not_eq_true', bne_iff_ne, decide_eq_true_eq] at h
  obtain ⟨⟨hc, hl⟩, hz⟩ := h
  have hd := dec_val _ (mag l) rfl hc
  unfold num Lib.itoa
  by_cases hn : isNeg l = true
  · have hm : mag l ≠ [48] := by simpa [hn] using hz
    have hc' := hc
    simp only [canN, Bool.and_eq_true, Bool.or_eq_true, beq_iff_eq, bne_iff_ne] at hc'
    have hp : 0 < val (mag l) := by
      rcases hc'.2 with h1 | ⟨h1, h2⟩
      · exact absurd h1 hm
      · exact valA_pos _ hc'.1 h1 h2
    rw [if_pos hn, if_pos (by omega), show (-(val (mag l) : Int)).natAbs = val (mag l) by omega, hd]
    simp only [isNeg, beq_iff_eq] at hn
    cases l with
    | nil => simp at hn
    | cons b r =>
      have hb : b = 45 := by simpa using hn
      subst hb
      simp [mag, isNeg]
  · rw [if_neg hn, if_neg (by omega), Int.toNat_natCast, hd]
    simp [mag, hn]
theorem num_fits (l : List UInt8) (h : validB l = true) : fits (num l) = true := by
  rw [← valid_itoa, itoa_num l h]; exact h
theorem num_inj {a b : List UInt8} (ha : validB a = true) (hb : validB b = true) (h : num a = num b) : a = b := by
  rw [← itoa_num a ha, ← itoa_num b hb, h]
theorem itoa_inj {a b : Int} (h : Lib.itoa a = Lib.itoa b) : a = b := by rw [← num_itoa a, ← num_itoa b, h]

/-! ### ToInt -/
theorem parseM (M : Nat) (hM : M = 18446744073709551615) : ∀ (l : List UInt8) (a : Nat), l.all dig = true → a ≤ M → Lib.parseUintM M a l = if valA a l ≤ M then .ok (valA a l) else .range
  | [], a, _, ha => by simp [Lib.parseUintM, valA_nil, ha]
  | b :: r, a, h, ha => by
    simp only [List.all_cons, Bool.and_eq_true] at h
    have hb := dig_ge h.1
    have hge := valA_ge (a * 10 + (b.toNat - 48)) r
    rw [Lib.parseUintM, if_pos ⟨hb.1, hb.2⟩]
    rw [valA_cons]
    by_cases h1 : 1844674407370955162 ≤ a
    · rw [if_pos h1, if_neg (by omega)]
    · rw [if_neg h1]
      by_cases h2 : M < a * 10 + (b.toNat - 48)
      · rw [if_pos h2, if_neg (by omega)]
      · rw [if_neg h2, parseM M hM r _ h.2 (by omega)]
def in64 (z : Int) : Bool := decide (-9223372036854775808 ≤ z) && decide (z ≤ 9223372036854775807)
theorem parse_valid (l : List UInt8) (h : validB l = true) : Lib.parseIntB 64 l = if in64 (num l) then .ok (num l) else .range := by
  have hv := h
  simp only [validB, Bool.and_eq_true, Bool.or_eq_true, Bool.not_eq_true', bne_iff_ne, decide_eq_true_eq] at h
  obtain ⟨⟨hc, hl⟩, hz⟩ := h
  simp only [canN, Bool.and_eq_true, Bool.or_eq_true, beq_iff_eq, bne_iff_ne] at hc
  have hne : mag l ≠ [] := by
    rcases hc.2 with h1 | ⟨h1, _⟩
    · rw [h1]; simp
    · exact h1
  have hp := parseM (2 ^ 64 - 1) (by decide) (mag l) 0 hc.1 (by decide)
  match l, hne with
  | [], hne => exact absurd rfl hne
  | c :: r, hne =>
    by_cases hn : c.toNat = 45
    · have hc45 : c = 45 := UInt8.toNat_inj.1 hn
      subst hc45
      have hm : mag (45 :: r) = r := by simp [mag, isNeg]
      have hi : isNeg (45 :: r) = true := by simp [isNeg]
      rw [hm] at hp hne
      have hu : Lib.parseUintB 64 r = if valA 0 r ≤ 2 ^ 64 - 1 then .ok (valA 0 r) else .range := by rw [Lib.parseUintB, if_neg hne]; exact hp
      unfold num
      rw [hi, hm]
      simp only [Lib.parseIntB, hn, or_true, if_true, hu, in64, val]
      by_cases h1 : valA 0 r ≤ 2 ^ 64 - 1
      · simp only [if_pos h1, not_true_eq_false, false_and, if_false, true_and, decide_eq_true_eq, Bool.and_eq_true]
        by_cases h2 : valA 0 r ≤ 9223372036854775808
        · rw [if_neg (by omega), if_pos (by omega)]
        · rw [if_pos (by omega), if_neg (by omega)]
      · simp only [if_neg h1, decide_eq_true_eq, Bool.and_eq_true]
        rw [if_neg (by omega)]
    · have hi : isNeg (c :: r) = false := by
        simp only [isNeg, List.head?_cons, beq_eq_false_iff_ne, ne_eq, Option.some.injEq]
        intro e; rw [e] at hn; exact hn rfl
      have hm : mag (c :: r) = c :: r := by simp [mag, hi]
      rw [hm] at hp hne hc
      have hd : 48 ≤ c.toNat := (dig_ge (by simpa using (List.all_eq_true.1 hc.1) c (by simp))).1
      have hu : Lib.parseUintB 64 (c :: r) = if val (c :: r) ≤ 2 ^ 64 - 1 then .ok (val (c :: r)) else .range := by rw [Lib.parseUintB, if_neg hne]; exact hp
      unfold num
      rw [hi, hm]
      clear hp
      generalize val (c :: r) = V at hu ⊢
      simp only [Lib.parseIntB, hn, or_false, show ¬ c.toNat = 43 by omega, if_false, hu, in64]
      by_cases h1 : V ≤ 2 ^ 64 - 1
      · simp only [if_pos h1, not_false_eq_true, true_and, false_and, if_false, decide_eq_true_eq, Bool.and_eq_true, Bool.false_eq_true]
        by_cases h2 : V ≤ 9223372036854775807
        · rw [if_neg (by omega), if_pos (by omega)]
        · rw [if_pos (by omega), if_neg (by omega)]
      · simp only [if_neg h1, decide_eq_true_eq, Bool.and_eq_true, Bool.false_eq_true, if_false]
        rw [if_neg (by omega)]
end Go.Proofs.YtnehkoedmcnjoaaGreatDoor
