/- Decimal numerals: lists of bytes and the numbers that they are. No program. Numbers in groups of four digits: lists of integers, the most significant first. No program. Reading digits into groups; writing groups as digits. No program. What the functions of the chapter answer: plain functions of lists of bytes; long division and the root, group by group. No program. -/
import Derived.Lib.ItoaNum
import Derived.Lib.ParseIntB
namespace Go.Proofs.YtgpncnnlhhmjaaaGreatDoor
open Go

def dig (b : UInt8) : Bool := decide (48 ≤ b.toNat) && decide (b.toNat ≤ 57)
def stepV (a : Nat) (b : UInt8) : Nat := a * 10 + (b.toNat - 48)
def valA (a : Nat) (l : List UInt8) : Nat := l.foldl stepV a
theorem valA_nil (a : Nat) : valA a [] = a := rfl
theorem valA_cons (a : Nat) (b : UInt8) (r : List UInt8) : valA a (b :: r) = valA (a * 10 + (b.toNat - 48)) r := by unfold valA; rw [List.foldl_cons, stepV]
def val (l : List UInt8) : Nat := valA 0 l
def canN (l : List UInt8) : Bool := l.all dig && (l == [48] || (l != [] && l.head? != some 48))
def isNeg (l : List UInt8) : Bool := l.head? == some 45
def mag (l : List UInt8) : List UInt8 := if isNeg l then l.tail else l
/-- A valid integer. -/
def validB (l : List UInt8) : Bool := canN (mag l) && decide ((mag l).length ≤ 200) && (!isNeg l || mag l != [48])
/-- The number that a valid integer is. -/
def num (l : List UInt8) : Int := if isNeg l then -(val (mag l) : Int) else (val (mag l) : Int)
/-- The numbers of at most 200 digits. -/
def lim : Nat := 10 ^ 200
def fits (z : Int) : Bool := decide (z.natAbs < lim)

theorem valA_append (a : Nat) (l r : List UInt8) : valA a (l ++ r) = valA (valA a l) r := by
  induction l generalizing a with
  | nil => rfl
  | cons b l ih => rw [List.cons_append, valA_cons, valA_cons]; exact ih _
theorem val_snoc (l : List UInt8) (b : UInt8) : val (l ++ [b]) = val l * 10 + (b.toNat - 48) := by rw [val, valA_append, valA_cons, valA_nil]; rfl
theorem dig_ge {b : UInt8} (h : dig b = true) : 48 ≤ b.toNat ∧ b.toNat ≤ 57 := by simpa [dig] using h
theorem valA_lt (a : Nat) (l : List UInt8) (h : l.all dig = true) : valA a l < (a + 1) * 10 ^ l.length := by
  induction l generalizing a with
  | nil => simp [valA_nil]
  | cons b l ih =>
    simp only [List.all_cons, Bool.and_eq_true] at h
    have hb := dig_ge h.1
    have h1 := ih (a * 10 + (b.toNat - 48)) h.2
    have h2 : (a * 10 + (b.toNat - 48) + 1) * 10 ^ l.length ≤ (a * 10 + 10) * 10 ^ l.length := Nat.mul_le_mul_right _ (by omega)
    have h3 : (a * 10 + 10) * 10 ^ l.length = (a + 1) * 10 ^ (l.length + 1) := by rw [Nat.pow_succ, show a * 10 + 10 = (a + 1) * 10 by omega, Nat.mul_assoc, Nat.mul_comm 10]
    rw [valA_cons, List.length_cons, ← h3]
    exact Nat.lt_of_lt_of_le h1 h2
theorem val_lt (l : List UInt8) (h : l.all dig = true) : val l < 10 ^ l.length := by simpa [val] using valA_lt 0 l h
theorem valA_ge (a : Nat) (l : List UInt8) : a ≤ valA a l := by
  induction l generalizing a with
  | nil => exact Nat.le_refl _
  | cons b l ih => rw [valA_cons]; exact Nat.le_trans (by omega) (ih _)

theorem ofNat_toNat {n : Nat} (h : n < 256) : (UInt8.ofNat n).toNat = n := by simp [UInt8.toNat_ofNat']; omega
theorem decDigits_small {n : Nat} (h : n < 10) : Lib.decDigits n = [UInt8.ofNat (48 + n)] := by rw [Lib.decDigits, dif_pos h]
theorem decDigits_big {n : Nat} (h : 10 ≤ n) : Lib.decDigits n = Lib.decDigits (n / 10) ++ [UInt8.ofNat (48 + n % 10)] := by rw [Lib.decDigits, dif_neg (by omega)]
theorem decDigits_ne (n : Nat) : Lib.decDigits n ≠ [] := by
  rw [Lib.decDigits]; split <;> simp
theorem val_decDigits (n : Nat) : val (Lib.decDigits n) = n := by
  induction n using Nat.strongRecOn with
  | _ n ih =>
    by_cases h : n < 10
    · rw [decDigits_small h]; simp only [val, valA_cons, valA_nil]; rw [ofNat_toNat (by omega)]; omega
    · rw [decDigits_big (by omega), val_snoc, ih _ (by omega), ofNat_toNat (by omega)]; omega
theorem dig_ofNat {n : Nat} (h : n < 10) : dig (UInt8.ofNat (48 + n)) = true := by
  simp only [dig, Bool.and_eq_true, decide_eq_true_eq]; rw [ofNat_toNat (by omega)]; omega
theorem decDigits_all (n : Nat) : (Lib.decDigits n).all dig = true := by
  induction n using Nat.strongRecOn with
  | _ n ih =>
    by_cases h : n < 10
    · rw [decDigits_small h, List.all_cons, List.all_nil, dig_ofNat h]; rfl
    · rw [decDigits_big (by omega), List.all_append, ih _ (by omega), List.all_cons, List.all_nil, dig_ofNat (show n % 10 < 10 by omega)]; rfl
theorem decDigits_head (n : Nat) (hn : 0 < n) : (Lib.decDigits n).head? ≠ some 48 := by
  induction n using Nat.strongRecOn with
  | _ n ih =>
    by_cases h : n < 10
    · rw [decDigits_small h]
      intro hc
      have h1 : (UInt8.ofNat (48 + n)).toNat = 48 := by
        have h0 : UInt8.ofNat (48 + n) = 48 := by simpa using hc
        rw [h0]; rfl
      rw [ofNat_toNat (by omega)] at h1
      omega
    · rw [decDigits_big (by omega), List.head?_append]
      have h1 := ih (n / 10) (by omega) (by omega)
      match hd : Lib.decDigits (n / 10), decDigits_ne (n / 10) with
      | b :: r, _ => rw [hd] at h1; simpa using h1
theorem decDigits_zero : Lib.decDigits 0 = [48] := by rw [decDigits_small (by decide)]; rfl
theorem canN_decDigits (n : Nat) : canN (Lib.decDigits n) = true := by
  simp only [canN, decDigits_all, Bool.true_and, Bool.or_eq_true, beq_iff_eq, Bool.and_eq_true, bne_iff_ne]
  rcases Nat.eq_zero_or_pos n with rfl | h
  · exact .inl decDigits_zero
  · exact .inr ⟨decDigits_ne n, decDigits_head n h⟩
theorem valA_pos (l : List UInt8) (h : l.all dig = true) (h0 : l ≠ []) (h1 : l.head? ≠ some 48) : 0 < val l := by
  match l, h0 with
  | b :: r, _ =>
    simp only [List.all_cons, Bool.and_eq_true] at h
    have hb := dig_ge h.1
    have : b.toNat ≠ 48 := fun e => h1 (by simp only [List.head?_cons, Option.some.injEq]; exact UInt8.toNat_inj.1 e)
    simp only [val, valA_cons, valA_nil]
    have := valA_ge (0 * 10 + (b.toNat - 48)) r
    omega
/-- A numeral without zeros in front is the one that is written for its number. -/
theorem dec_val : ∀ (k : Nat) (l : List UInt8), l.length = k → canN l = true → Lib.decDigits (val l) = l
  | 0, l, hk, h => by
    obtain rfl := List.length_eq_zero_iff.1 hk
    simp [canN] at h
  | 1, l, hk, h => by
    match l, hk with
    | [b], _ =>
      simp only [canN, List.all_cons, List.all_nil, Bool.and_true, Bool.and_eq_true] at h
      have hb := dig_ge h.1
      simp only [val, valA_cons, valA_nil, Nat.zero_mul, Nat.zero_add]
      rw [decDigits_small (by omega), show 48 + (b.toNat - 48) = b.toNat by omega]
      simp
  | k + 2, l, hk, h => by
    obtain ⟨r, b, rfl⟩ : ∃ r b, l = r ++ [b] := ⟨l.dropLast, l.getLast (by intro e; simp [e] at hk), (List.dropLast_concat_getLast _).symm⟩
    rw [List.length_append] at hk
    have hr : r.length = k + 1 := by simpa using hk
    simp only [canN, List.all_append, List.all_cons, List.all_nil, Bool.and_true, Bool.and_eq_true, Bool.or_eq_true, beq_iff_eq, bne_iff_ne] at h
    obtain ⟨⟨ha, hb⟩, hh⟩ := h
    have hrn : r ≠ [] := by intro e; rw [e] at hr; simp at hr
    have hhead : r.head? ≠ some 48 := by
      rcases hh with h1 | ⟨_, h1⟩
      · have : (r ++ [b]).length = 1 := by rw [h1]; rfl
        simp [hr] at this
      · match r, hrn with
        | c :: r', _ => simpa using h1
    have hcan : canN r = true := by simp [canN, ha, hrn, hhead]
    have hp := valA_pos r ha hrn hhead
    have hb' := dig_ge hb
    rw [val_snoc, decDigits_big (by omega), show (val r * 10 + (b.toNat - 48)) / 10 = val r by omega, show 48 + (val r * 10 + (b.toNat - 48)) % 10 = b.toNat by omega, dec_val (k + 1) r hr hcan]
    simp
theorem nDigits_le : ∀ (k n : Nat), n < 10 ^ (k + 1) → Lib.nDigits n ≤ k + 1
  | 0, n, h => by rw [Lib.nDigits_small (by simpa using h)]; exact Nat.le_refl _
  | k + 1, n, h => by
    by_cases h0 : n < 10
    · rw [Lib.nDigits_small h0]; omega
    · rw [Lib.nDigits_big h0]
      have := nDigits_le k (n / 10) (by rw [Nat.pow_succ] at h; omega)
      omega
theorem decDigits_len_le (n k : Nat) : (Lib.decDigits n).length ≤ k + 1 ↔ n < 10 ^ (k + 1) := by
  rw [Lib.decDigits_length]
  constructor
  · intro h
    exact Nat.lt_of_lt_of_le (Lib.lt_pow_nDigits n) (Nat.pow_le_pow_right (by decide) h)
  · exact nDigits_le k n
theorem head_not_minus (n : Nat) : (Lib.decDigits n).head? ≠ some 45 := by
  have h := decDigits_all n
  match hd : Lib.decDigits n, decDigits_ne n with
  | b :: r, _ =>
    rw [hd] at h
    simp only [List.all_cons, Bool.and_eq_true] at h
    have := dig_ge h.1
    intro e
    simp only [List.head?_cons, Option.some.injEq] at e
    rw [e] at this
    exact absurd this.1 (by decide)
theorem isNeg_dec (n : Nat) : isNeg (Lib.decDigits n) = false := by simpa [isNeg] using head_not_minus n
theorem mag_dec (n : Nat) : mag (Lib.decDigits n) = Lib.decDigits n := by simp [mag, isNeg_dec]
theorem isNeg_itoa (z : Int) : isNeg (Lib.itoa z) = decide (z < 0) := by
  unfold Lib.itoa
  split
  · simp [isNeg, *]
  · rw [isNeg_dec]; simp; omega
theorem mag_itoa (z : Int) : mag (Lib.itoa z) = Lib.decDigits z.natAbs := by
  unfold mag
  rw [isNeg_itoa]
  unfold Lib.itoa
  by_cases h : z < 0
  · simp [h]
  · simp [h]; congr 1; omega
theorem num_itoa (z : Int) : num (Lib.itoa z) = z := by
  unfold num
  rw [isNeg_itoa, mag_itoa, val_decDigits]
  by_cases h : z < 0 <;> simp [h] <;> omega
theorem valid_itoa (z : Int) : validB (Lib.itoa z) = fits z := by
  unfold validB fits
  rw [isNeg_itoa, mag_itoa, canN_decDigits]
  have h1 := decDigits_len_le z.natAbs 199
  simp only [Bool.true_and]
  have h2 : (!decide (z < 0) || Lib.decDigits z.natAbs != [48]) = true := by
    simp only [Bool.or_eq_true, Bool.not_eq_true', decide_eq_false_iff_not, bne_iff_ne]
    by_cases h : z < 0
    · right
      intro e
      have := decDigits_head z.natAbs (by omega)
      rw [e] at this
      exact this rfl
    · exact .inl h
  rw [h2, Bool.and_true]
  exact decide_eq_decide.2 h1
theorem itoa_num (l : List UInt8) (h : validB l = true) : Lib.itoa (num l) = l := by
  simp only [validB, Bool.and_eq_true, Bool.or_eq_true, Bool.not_eq_true', bne_iff_ne, decide_eq_true_eq] at h
  obtain ⟨⟨hc, hl⟩, hz⟩ := h
  have hd := dec_val _ (mag l) rfl hc
  unfold num Lib.itoa
  by_cases hn : isNeg l = true
  · have hm : mag l ≠ [48] := by simpa [hn] using hz
    have hc' := hc
    simp only [canN, Bool.and_eq_true, Bool.or_eq_true, beq_iff_eq, bne_iff_ne] at hc'
    have hp : 0 < val (mag l) := by
      rcases hc'.2 with h1 | ⟨h1, h2⟩
      · exact absurd h1 hm
      · exact valA_pos _ hc'.1 h1 h2
    rw [if_pos hn, if_pos (by omega), show (-(val (mag l) : Int)).natAbs = val (mag l) by omega, hd]
    simp only [isNeg, beq_iff_eq] at hn
    cases l with
    | nil => simp at hn
    | cons b r =>
      have hb : b = 45 := by simpa using hn
      subst hb
      simp [mag, isNeg]
  · rw [if_neg hn, if_neg (by omega), Int.toNat_natCast, hd]
    simp [mag, hn]
theorem num_fits (l : List UInt8) (h : validB l = true) : fits (num l) = true := by
  rw [← valid_itoa, itoa_num l h]; exact h
theorem num_inj {a b : List UInt8} (ha : validB a = true) (hb : validB b = true) (h : num a = num b) : a = b := by
  rw [← itoa_num a ha, ← itoa_num b hb, h]
theorem itoa_inj {a b : Int} (h : Lib.itoa a = Lib.itoa b) : a = b := by rw [← num_itoa a, ← num_itoa b, h]

/-! ### ToInt -/
theorem parseM (M : Nat) (hM : M = 18446744073709551615) : ∀ (l : List UInt8) (a : Nat), l.all dig = true → a ≤ M → Lib.parseUintM M a l = if valA a l ≤ M then .ok (valA a l) else .range
  | [], a, _, ha => by simp [Lib.parseUintM, valA_nil, ha]
  | b :: r, a, h, ha => by
    simp only [List.all_cons, Bool.and_eq_true] at h
    have hb := dig_ge h.1
    have hge := valA_ge (a * 10 + (b.toNat - 48)) r
    rw [Lib.parseUintM, if_pos ⟨hb.1, hb.2⟩]
    rw [valA_cons]
    by_cases h1 : 1844674407370955162 ≤ a
    · rw [if_pos h1, if_neg (by omega)]
    · rw [if_neg h1]
      by_cases h2 : M < a * 10 + (b.toNat - 48)
      · rw [if_pos h2, if_neg (by omega)]
      · rw [if_neg h2, parseM M hM r _ h.2 (by omega)]
def in64 (z : Int) : Bool := decide (-9223372036854775808 ≤ z) && decide (z ≤ 9223372036854775807)
theorem parse_valid (l : List UInt8) (h : validB l = true) : Lib.parseIntB 64 l = if in64 (num l) then .ok (num l) else .range := by
  have hv := h
  simp only [validB, Bool.and_eq_true, Bool.or_eq_true, Bool.not_eq_true', bne_iff_ne, decide_eq_true_eq] at h
  obtain ⟨⟨hc, hl⟩, hz⟩ := h
  simp only [canN, Bool.and_eq_true, Bool.or_eq_true, beq_iff_eq, bne_iff_ne] at hc
  have hne : mag l ≠ [] := by
    rcases hc.2 with h1 | ⟨h1, _⟩
    · rw [h1]; simp
    · exact h1
  have hp := parseM (2 ^ 64 - 1) (by decide) (mag l) 0 hc.1 (by decide)
  match l, hne with
  | [], hne => exact absurd rfl hne
  | c :: r, hne =>
    by_cases hn : c.toNat = 45
    · have hc45 : c = 45 := UInt8.toNat_inj.1 hn
      subst hc45
      have hm : mag (45 :: r) = r := by simp [mag, isNeg]
      have hi : isNeg (45 :: r) = true := by simp [isNeg]
      rw [hm] at hp hne
      have hu : Lib.parseUintB 64 r = if valA 0 r ≤ 2 ^ 64 - 1 then .ok (valA 0 r) else .range := by rw [Lib.parseUintB, if_neg hne]; exact hp
      unfold num
      rw [hi, hm]
      simp only [Lib.parseIntB, hn, or_true, if_true, hu, in64, val]
      by_cases h1 : valA 0 r ≤ 2 ^ 64 - 1
      · simp only [if_pos h1, not_true_eq_false, false_and, if_false, true_and, decide_eq_true_eq, Bool.and_eq_true]
        by_cases h2 : valA 0 r ≤ 9223372036854775808
        · rw [if_neg (by omega), if_pos (by omega)]
        · rw [if_pos (by omega), if_neg (by omega)]
      · simp only [if_neg h1, decide_eq_true_eq, Bool.and_eq_true]
        rw [if_neg (by omega)]
    · have hi : isNeg (c :: r) = false := by
        simp only [isNeg, List.head?_cons, beq_eq_false_iff_ne, ne_eq, Option.some.injEq]
        intro e; rw [e] at hn; exact hn rfl
      have hm : mag (c :: r) = c :: r := by simp [mag, hi]
      rw [hm] at hp hne hc
      have hd : 48 ≤ c.toNat := (dig_ge (by simpa using (List.all_eq_true.1 hc.1) c (by simp))).1
      have hu : Lib.parseUintB 64 (c :: r) = if val (c :: r) ≤ 2 ^ 64 - 1 then .ok (val (c :: r)) else .range := by rw [Lib.parseUintB, if_neg hne]; exact hp
      unfold num
      rw [hi, hm]
      clear hp
      generalize val (c :: r) = V at hu ⊢
      simp only [Lib.parseIntB, hn, or_false, show ¬ c.toNat = 43 by omega, if_false, hu, in64]
      by_cases h1 : V ≤ 2 ^ 64 - 1
      · simp only [if_pos h1, not_false_eq_true, true_and, false_and, if_false, decide_eq_true_eq, Bool.and_eq_true, Bool.false_eq_true]
        by_cases h2 : V ≤ 9223372036854775807
        · rw [if_neg (by omega), if_pos (by omega)]
        · rw [if_pos (by omega), if_neg (by omega)]
      · simp only [if_neg h1, decide_eq_true_eq, Bool.and_eq_true, Bool.false_eq_true, if_false]
        rw [if_neg (by omega)]
end Go.Proofs.YtgpncnnlhhmjaaaGreatDoor
namespace Go.Proofs.YtgpncnnlhhmjaaaGreatDoor
open Go

/-- The number of a list of columns, whatever they hold. -/
def gA (a : Int) : List Int → Int
  | [] => a
  | g :: r => gA (a * 10000 + g) r
def gv (l : List Int) : Int := gA 0 l
/-- Groups are from 0 to 9999. -/
def Gs (l : List Int) : Prop := ∀ g ∈ l, 0 ≤ g ∧ g < 10000
/-- The groups of a number: no 0 in front. -/
def grp (n : Nat) : List Int := if h : n = 0 then [] else grp (n / 10000) ++ [((n % 10000 : Nat) : Int)]
termination_by n
decreasing_by omega

theorem gA_append (a : Int) (l r : List Int) : gA a (l ++ r) = gA (gA a l) r := by
  induction l generalizing a with
  | nil => rfl
  | cons b l ih => simp [gA, ih]
theorem gv_snoc (l : List Int) (g : Int) : gv (l ++ [g]) = gv l * 10000 + g := by simp [gv, gA_append, gA]
theorem gA_eq (a : Int) (l : List Int) : gA a l = a * 10000 ^ l.length + gv l := by
  induction l generalizing a with
  | nil => simp [gA, gv]
  | cons g l ih =>
    unfold gv
    simp only [gA, List.length_cons]
    rw [ih, ih (0 * 10000 + g), Int.pow_succ]
    simp only [Int.zero_mul, Int.zero_add, Int.add_mul, Int.mul_assoc, Int.mul_comm (10000 : Int), Int.add_assoc]
theorem gv_cons (g : Int) (l : List Int) : gv (g :: l) = g * 10000 ^ l.length + gv l := by
  unfold gv
  rw [gA, gA_eq]
  simp [gv]
theorem gv_append (l r : List Int) : gv (l ++ r) = gv l * 10000 ^ r.length + gv r := by unfold gv; rw [gA_append, gA_eq]; rfl
theorem gv_nil : gv [] = 0 := rfl
theorem gv_zeros (k : Nat) : gv (List.replicate k 0) = 0 := by
  induction k with
  | zero => rfl
  | succ k ih => rw [List.replicate_succ, gv_cons, ih]; simp
theorem pow_pos4 (k : Nat) : (0 : Int) < 10000 ^ k := Int.pow_pos (by decide)
theorem Gs.tail {g : Int} {l : List Int} (h : Gs (g :: l)) : Gs l := fun x hx => h x (by simp [hx])
theorem Gs.head {g : Int} {l : List Int} (h : Gs (g :: l)) : 0 ≤ g ∧ g < 10000 := h g (by simp)
theorem gv_lt {l : List Int} (h : Gs l) : 0 ≤ gv l ∧ gv l < 10000 ^ l.length := by
  induction l with
  | nil => simp [gv, gA]
  | cons g l ih =>
    have h1 := ih h.tail
    have h2 := h.head
    rw [gv_cons, List.length_cons, Int.pow_succ]
    have hp := pow_pos4 l.length
    constructor
    · have := Int.mul_nonneg h2.1 (Int.le_of_lt hp); omega
    · have h3 : g * 10000 ^ l.length ≤ 9999 * 10000 ^ l.length := Int.mul_le_mul_of_nonneg_right (by omega) (Int.le_of_lt hp)
      omega
theorem grp_zero : grp 0 = [] := by rw [grp, dif_pos rfl]
theorem grp_pos {n : Nat} (h : 0 < n) : grp n = grp (n / 10000) ++ [((n % 10000 : Nat) : Int)] := by rw [grp, dif_neg (by omega)]
theorem grp_snoc (n g : Nat) (hg : g < 10000) (h : 0 < n * 10000 + g) : grp (n * 10000 + g) = grp n ++ [(g : Int)] := by
  rw [grp_pos h, show (n * 10000 + g) / 10000 = n by omega, show (n * 10000 + g) % 10000 = g by omega]
theorem grp_one {g : Nat} (h0 : 0 < g) (h : g < 10000) : grp g = [(g : Int)] := by
  have := grp_snoc 0 g h (by omega)
  simpa [grp_zero] using this
theorem gs_grp (n : Nat) : Gs (grp n) := by
  induction n using Nat.strongRecOn with
  | _ n ih =>
    rcases Nat.eq_zero_or_pos n with rfl | h
    · rw [grp_zero]; intro g hg; simp at hg
    · rw [grp_pos h]
      intro g hg
      rcases List.mem_append.1 hg with h1 | h1
      · exact ih _ (by omega) g h1
      · simp only [List.mem_singleton] at h1; subst h1; omega
theorem gv_grp (n : Nat) : gv (grp n) = n := by
  induction n using Nat.strongRecOn with
  | _ n ih =>
    rcases Nat.eq_zero_or_pos n with rfl | h
    · rw [grp_zero]; rfl
    · rw [grp_pos h, gv_snoc, ih _ (by omega)]; omega
theorem grp_ne {n : Nat} (h : 0 < n) : grp n ≠ [] := by rw [grp_pos h]; simp
theorem grp_nil {n : Nat} : grp n = [] ↔ n = 0 := by
  constructor
  · intro h
    rcases Nat.eq_zero_or_pos n with h1 | h1
    · exact h1
    · exact absurd h (grp_ne h1)
  · rintro rfl; exact grp_zero
theorem grp_head (n : Nat) : (grp n).head? ≠ some 0 := by
  induction n using Nat.strongRecOn with
  | _ n ih =>
    rcases Nat.eq_zero_or_pos n with rfl | h
    · rw [grp_zero]; simp
    · rw [grp_pos h, List.head?_append]
      rcases Nat.eq_zero_or_pos (n / 10000) with h1 | h1
      · rw [h1, grp_zero]; simp; omega
      · have := ih (n / 10000) (by omega)
        match hd : grp (n / 10000), grp_ne h1 with
        | b :: r, _ => rw [hd] at this; simpa using this
theorem grp_len (n k : Nat) : (grp n).length ≤ k ↔ n < 10000 ^ k := by
  induction k generalizing n with
  | zero => simp [grp_nil]
  | succ k ih =>
    rcases Nat.eq_zero_or_pos n with rfl | h
    · simp [grp_zero, Nat.pow_pos]
    · rw [grp_pos h, List.length_append, List.length_singleton, Nat.pow_succ]
      have := ih (n / 10000)
      constructor
      · intro h1; have := this.1 (by omega); omega
      · intro h1; have := this.2 (by omega); omega
/-- Groups without a 0 in front are those of their number. -/
theorem grp_gv : ∀ (k : Nat) (l : List Int), l.length = k → Gs l → l.head? ≠ some 0 → grp (gv l).toNat = l
  | 0, l, hk, _, _ => by
    obtain rfl := List.length_eq_zero_iff.1 hk
    simp [gv, gA, grp_zero]
  | k + 1, l, hk, hg, hh => by
    obtain ⟨r, g, rfl⟩ : ∃ r g, l = r ++ [g] := ⟨l.dropLast, l.getLast (by intro e; simp [e] at hk), (List.dropLast_concat_getLast _).symm⟩
    have hr : r.length = k := by simpa using hk
    have hgr : Gs r := fun x hx => hg x (by simp [hx])
    have hgg := hg g (by simp)
    have h1 := gv_lt hgr
    rw [gv_snoc]
    rcases Nat.eq_zero_or_pos k with h0 | h0
    · obtain rfl := List.length_eq_zero_iff.1 (hr.trans h0)
      have hg0 : g ≠ 0 := by intro e; exact hh (by simp [e])
      simp only [gv_nil, Int.zero_mul, Int.zero_add, List.nil_append]
      rw [grp_one (by omega) (by omega), Int.toNat_of_nonneg hgg.1]
    · have hrh : r.head? ≠ some 0 := by
        match r, hr with
        | [], hr => simp at hr; omega
        | b :: r', _ => simpa using hh
      have ih := grp_gv k r hr hgr hrh
      have hp : 0 < (gv r).toNat := by
        rcases Nat.eq_zero_or_pos (gv r).toNat with h2 | h2
        · rw [h2, grp_zero] at ih; rw [← ih] at hr; simp at hr; omega
        · exact h2
      have e : (gv r * 10000 + g).toNat = (gv r).toNat * 10000 + g.toNat := by omega
      rw [e, grp_snoc _ _ (by omega) (by omega), ih]
      congr 2; omega
/-- Zeros in front. -/
theorem gv_strip (k : Nat) (l : List Int) : gv (List.replicate k 0 ++ l) = gv l := by rw [gv_append, gv_zeros]; simp

/-! ### carry -/
def carL : List Int → List Int × Int
  | [] => ([], 0)
  | c :: r => (((c + (carL r).2) % 10000) :: (carL r).1, (c + (carL r).2) / 10000)
theorem carL_len (l : List Int) : (carL l).1.length = l.length := by induction l with | nil => rfl | cons c l ih => simp [carL, ih]
theorem carL_gs (l : List Int) : Gs (carL l).1 := by
  induction l with
  | nil => intro g hg; simp [carL] at hg
  | cons c l ih =>
    intro g hg
    simp only [carL, List.mem_cons] at hg
    rcases hg with rfl | h
    · omega
    · exact ih g h
theorem carL_gv (l : List Int) : gv l = (carL l).2 * 10000 ^ l.length + gv (carL l).1 := by
  induction l with
  | nil => simp [carL, gv, gA]
  | cons c l ih =>
    rw [gv_cons, ih, carL, gv_cons, carL_len, List.length_cons, Int.pow_succ]
    have e := Int.mul_ediv_add_emod (c + (carL l).2) 10000
    generalize (c + (carL l).2) / 10000 = q at *
    generalize (c + (carL l).2) % 10000 = m at *
    have e2 : (c + (carL l).2) * 10000 ^ l.length = (10000 * q + m) * 10000 ^ l.length := by rw [e]
    rw [Int.add_mul, Int.add_mul] at e2
    have e3 : q * (10000 ^ l.length * 10000) = 10000 * q * 10000 ^ l.length := by rw [Int.mul_comm 10000 q, Int.mul_assoc, Int.mul_comm 10000]
    rw [e3]
    omega
theorem carL_bound (l : List Int) (M : Int) (hM : 0 ≤ M) (h : ∀ c ∈ l, -M ≤ c ∧ c ≤ M) : -M - 1 ≤ (carL l).2 ∧ (carL l).2 ≤ M + 1 := by
  induction l with
  | nil => simp [carL]; omega
  | cons c l ih =>
    have h1 := ih (fun x hx => h x (by simp [hx]))
    have h2 := h c (by simp)
    simp only [carL]
    omega
theorem carL_zero (l : List Int) (h0 : 0 ≤ gv l) (h1 : gv l < 10000 ^ l.length) : (carL l).2 = 0 ∧ gv (carL l).1 = gv l := by
  have e := carL_gv l
  have hb := gv_lt (carL_gs l)
  rw [carL_len] at hb
  have hp := pow_pos4 l.length
  generalize (carL l).2 = k at *
  have hk : k = 0 := by
    rcases Int.lt_trichotomy k 0 with h | h | h
    · have : k * 10000 ^ l.length ≤ (-1) * 10000 ^ l.length := Int.mul_le_mul_of_nonneg_right (by omega) (Int.le_of_lt hp)
      omega
    · exact h
    · have : 1 * 10000 ^ l.length ≤ k * 10000 ^ l.length := Int.mul_le_mul_of_nonneg_right (by omega) (Int.le_of_lt hp)
      omega
  subst hk
  exact ⟨rfl, by omega⟩
/-- The zeros in front of a list. -/
def zer : List Int → Nat
  | [] => 0
  | g :: r => if g = 0 then zer r + 1 else 0
theorem zer_le (l : List Int) : zer l ≤ l.length := by
  induction l with
  | nil => exact Nat.le_refl _
  | cons g r ih => simp only [zer]; split <;> simp <;> omega
theorem zer_split (l : List Int) : List.replicate (zer l) 0 ++ l.drop (zer l) = l := by
  induction l with
  | nil => rfl
  | cons g r ih =>
    simp only [zer]
    split
    · subst_vars; simp [List.replicate_succ, ih]
    · simp
theorem zer_head (l : List Int) : (l.drop (zer l)).head? ≠ some 0 := by
  induction l with
  | nil => simp [zer]
  | cons g r ih =>
    simp only [zer]
    split
    · simpa using ih
    · simpa using by assumption
theorem grp_drop (l : List Int) (h : Gs l) : l.drop (zer l) = grp (gv l).toNat := by
  have e := zer_split l
  have hg : gv l = gv (l.drop (zer l)) := by
    have h1 := gv_strip (zer l) (l.drop (zer l))
    rw [e] at h1; exact h1
  rw [hg]
  exact (grp_gv _ _ rfl (fun g hg => h g (List.mem_of_mem_drop hg)) (zer_head l)).symm

/-! ### reading -/
/-- The columns of a number: zeros in front. -/
def cols (k n : Nat) : List Int := List.replicate (k - (grp n).length) 0 ++ grp n
theorem cols_len (k n : Nat) (h : n < 10000 ^ k) : (cols k n).length = k := by
  have := (grp_len n k).2 h
  simp [cols]; omega
theorem cols_gv (k n : Nat) : gv (cols k n) = n := by rw [cols, gv_strip, gv_grp]
theorem cols_gs (k n : Nat) : Gs (cols k n) := by
  intro g hg
  rcases List.mem_append.1 hg with h | h
  · rw [List.eq_of_mem_replicate h]; omega
  · exact gs_grp n g h

/-! ### columns added -/
theorem gv_add : ∀ (l r : List Int), l.length = r.length → gv (List.zipWith (· + ·) l r) = gv l + gv r
  | [], [], _ => rfl
  | a :: l, b :: r, h => by
    have h1 : l.length = r.length := by simpa using h
    rw [List.zipWith_cons_cons, gv_cons, gv_cons, gv_cons, gv_add l r h1, List.length_zipWith, h1, Nat.min_self, Int.add_mul]
    omega
theorem gv_sub : ∀ (l r : List Int), l.length = r.length → gv (List.zipWith (· - ·) l r) = gv l - gv r
  | [], [], _ => rfl
  | a :: l, b :: r, h => by
    have h1 : l.length = r.length := by simpa using h
    rw [List.zipWith_cons_cons, gv_cons, gv_cons, gv_cons, gv_sub l r h1, List.length_zipWith, h1, Nat.min_self, Int.sub_mul]
    omega
theorem gv_mul (k : Int) (l : List Int) : gv (l.map (· * k)) = gv l * k := by
  induction l with
  | nil => simp [gv, gA]
  | cons a l ih => rw [List.map_cons, gv_cons, gv_cons, ih, List.length_map, Int.add_mul, Int.mul_assoc, Int.mul_comm k, Int.mul_assoc]

/-! ### order -/
def cmpI (a b : Int) : Int := if a < b then -1 else if b < a then 1 else 0
def cmpL : List Int → List Int → Int
  | [], [] => 0
  | [], _ :: _ => -1
  | _ :: _, [] => 1
  | a :: l, b :: r => if cmpI a b = 0 then cmpL l r else cmpI a b
theorem cmpI_eq {a b : Int} : cmpI a b = 0 ↔ a = b := by unfold cmpI; split <;> (try split) <;> omega
theorem cmpL_gv : ∀ (l r : List Int), l.length = r.length → Gs l → Gs r → cmpL l r = cmpI (gv l) (gv r)
  | [], [], _, _, _ => rfl
  | a :: l, b :: r, h, hl, hr => by
    have h1 : l.length = r.length := by simpa using h
    have ih := cmpL_gv l r h1 hl.tail hr.tail
    have b1 := gv_lt hl.tail
    have b2 := gv_lt hr.tail
    rw [gv_cons, gv_cons, h1] at *
    have hp := pow_pos4 r.length
    rw [cmpL]
    split
    · rename_i e
      have e := cmpI_eq.1 e
      subst e
      rw [ih]
      unfold cmpI
      split <;> split <;> (try split) <;> (try split) <;> omega
    · rename_i e
      have e : a ≠ b := fun h => e (cmpI_eq.2 h)
      unfold cmpI
      rcases Int.lt_or_gt_of_ne e with h2 | h2
      · have : a * 10000 ^ r.length ≤ (b - 1) * 10000 ^ r.length := Int.mul_le_mul_of_nonneg_right (by omega) (Int.le_of_lt hp)
        rw [Int.sub_mul] at this
        rw [if_pos h2, if_pos (by omega)]
      · have : b * 10000 ^ r.length ≤ (a - 1) * 10000 ^ r.length := Int.mul_le_mul_of_nonneg_right (by omega) (Int.le_of_lt hp)
        rw [Int.sub_mul] at this
        rw [if_neg (by omega), if_pos h2, if_neg (by omega), if_pos (by omega)]
/-- Groups compare as the numbers do: the longer is the greater. -/
theorem cmp_grp (a b : Nat) : (if (grp a).length = (grp b).length then cmpL (grp a) (grp b) else cmpI ((grp a).length : Int) ((grp b).length : Int)) = cmpI (a : Int) (b : Int) := by
  split
  · rename_i h
    rw [cmpL_gv _ _ h (gs_grp a) (gs_grp b), gv_grp, gv_grp]
  · rename_i h
    have ha := (grp_len a (grp a).length).1 (Nat.le_refl _)
    have hb := (grp_len b (grp b).length).1 (Nat.le_refl _)
    unfold cmpI
    rcases Nat.lt_or_gt_of_ne h with h1 | h1
    · have h2 : ¬ b < 10000 ^ (grp a).length := fun hc => by have := (grp_len b _).2 hc; omega
      rw [if_pos (by omega), if_pos (by omega)]
    · have h2 : ¬ a < 10000 ^ (grp b).length := fun hc => by have := (grp_len a _).2 hc; omega
      rw [if_neg (by omega), if_pos (by omega), if_neg (by omega), if_pos (by omega)]

/-! ### text -/
/-- The four digits of a group. -/
def pad4 (g : Nat) : List UInt8 := (Lib.decDigits (10000 + g)).tail
theorem dec_5 (n : Nat) (h : 10000 ≤ n) : Lib.decDigits n = Lib.decDigits (n / 10000) ++ [UInt8.ofNat (48 + n / 1000 % 10), UInt8.ofNat (48 + n / 100 % 10), UInt8.ofNat (48 + n / 10 % 10), UInt8.ofNat (48 + n % 10)] := by
  rw [decDigits_big (by omega), decDigits_big (n := n / 10) (by omega), decDigits_big (n := n / 10 / 10) (by omega), decDigits_big (n := n / 10 / 10 / 10) (by omega)]
  rw [show n / 10 / 10 / 10 / 10 = n / 10000 by omega, show n / 10 / 10 / 10 = n / 1000 by omega, show n / 10 / 10 = n / 100 by omega]
  simp
theorem pad4_eq (g : Nat) (h : g < 10000) : pad4 g = [UInt8.ofNat (48 + g / 1000), UInt8.ofNat (48 + g / 100 % 10), UInt8.ofNat (48 + g / 10 % 10), UInt8.ofNat (48 + g % 10)] := by
  rw [pad4, dec_5 _ (by omega), show (10000 + g) / 10000 = 1 by omega, decDigits_small (show 1 < 10 by decide), show (10000 + g) / 1000 % 10 = g / 1000 by omega,
    show (10000 + g) / 100 % 10 = g / 100 % 10 by omega, show (10000 + g) / 10 % 10 = g / 10 % 10 by omega, show (10000 + g) % 10 = g % 10 by omega]
  rfl
theorem dec_group (n g : Nat) (hn : 0 < n) (hg : g < 10000) : Lib.decDigits (n * 10000 + g) = Lib.decDigits n ++ pad4 g := by
  rw [dec_5 _ (by omega), pad4_eq g hg, show (n * 10000 + g) / 10000 = n by omega, show (n * 10000 + g) / 1000 % 10 = g / 1000 by omega,
    show (n * 10000 + g) / 100 % 10 = g / 100 % 10 by omega, show (n * 10000 + g) / 10 % 10 = g / 10 % 10 by omega, show (n * 10000 + g) % 10 = g % 10 by omega]
/-- The digits behind a number, group by group. -/
def txt (n : Nat) : List Int → List UInt8
  | [] => Lib.decDigits n
  | g :: r => txt (n * 10000 + g.toNat) r
end Go.Proofs.YtgpncnnlhhmjaaaGreatDoor
namespace Go.Proofs.YtgpncnnlhhmjaaaGreatDoor
open Go

/-- How the columns stand before digit number i of L digits is put in: groups that are full, the group that is being filled, zeros. -/
def Fill (L m i : Nat) (v : Nat) (C : List Int) : Prop :=
  ∃ (P : List Int) (x : Nat), C = P ++ (x : Int) :: List.replicate ((L - 1 - i) / 4) 0 ∧ P.length = m - 1 - (L - 1 - i) / 4 ∧ Gs P ∧ x < 10 ^ (3 - (L - 1 - i) % 4) ∧ gv P * 10 ^ (3 - (L - 1 - i) % 4) + x = v
theorem fill_start (L m : Nat) (hL : 0 < L) (hm : m = (L + 3) / 4) : Fill L m 0 0 (List.replicate m 0) := by
  refine ⟨[], 0, ?_, by simp; omega, by intro g hg; simp at hg, Nat.pow_pos (by decide), by simp [gv_nil]⟩
  have : m = (L - 1 - 0) / 4 + 1 := by omega
  rw [this, List.replicate_succ]; simp
theorem fill_at {L m i v : Nat} {C : List Int} (h : Fill L m i v C) (hi : i < L) (hm : m = (L + 3) / 4) :
    C.length = m ∧ ∃ x : Nat, C[m - 1 - (L - 1 - i) / 4]? = some (x : Int) ∧ x < 1000 := by
  obtain ⟨P, x, rfl, hP, _, hx, _⟩ := h
  refine ⟨by simp; omega, x, by rw [← hP]; simp, ?_⟩
  have : 10 ^ (3 - (L - 1 - i) % 4) ≤ 10 ^ 3 := Nat.pow_le_pow_right (by decide) (by omega)
  omega
theorem fill_step {L m i v d x : Nat} {C : List Int} (h : Fill L m i v C) (hi : i + 1 < L) (hm : m = (L + 3) / 4) (hd : d < 10) (hx : C[m - 1 - (L - 1 - i) / 4]? = some (x : Int)) :
    Fill L m (i + 1) (v * 10 + d) (C.set (m - 1 - (L - 1 - i) / 4) ((x * 10 + d : Nat) : Int)) := by
  obtain ⟨P, y, rfl, hP, hG, hy, hv⟩ := h
  have hxy : x = y := by
    rw [← hP] at hx
    have h9 : (x : Int) = y := by simpa using hx.symm
    omega
  subst hxy
  rw [← hP, List.set_append_right _ _ (Nat.le_refl _), Nat.sub_self, List.set_cons_zero]
  by_cases hr : (L - 1 - i) % 4 = 0
  · rw [hr] at hy hv
    refine ⟨P ++ [((x * 10 + d : Nat) : Int)], 0, ?_, by rw [List.length_append, hP]; simp; omega, ?_, Nat.pow_pos (by decide), ?_⟩
    · have e : (L - 1 - i) / 4 = (L - 1 - (i + 1)) / 4 + 1 := by omega
      rw [e, List.replicate_succ]; simp
    · intro g hg
      rcases List.mem_append.1 hg with h1 | h1
      · exact hG g h1
      · simp only [List.mem_singleton] at h1; subst h1; simp only [Nat.sub_zero, Nat.reducePow] at hy; omega
    · rw [show 3 - (L - 1 - (i + 1)) % 4 = 0 by omega, gv_snoc]
      simp only [Nat.sub_zero, Int.reducePow] at hv
      simp; omega
  · refine ⟨P, x * 10 + d, ?_, by rw [hP]; omega, hG, ?_, ?_⟩
    · rw [show (L - 1 - (i + 1)) / 4 = (L - 1 - i) / 4 by omega]
    · rw [show 3 - (L - 1 - (i + 1)) % 4 = (3 - (L - 1 - i) % 4) + 1 by omega, Nat.pow_succ]; omega
    · rw [show 3 - (L - 1 - (i + 1)) % 4 = (3 - (L - 1 - i) % 4) + 1 by omega, Int.pow_succ, ← Int.mul_assoc]; omega
theorem fill_last {L m i v d x : Nat} {C : List Int} (h : Fill L m i v C) (hi : i + 1 = L) (hm : m = (L + 3) / 4) (hd : d < 10) (hx : C[m - 1 - (L - 1 - i) / 4]? = some (x : Int)) :
    gv (C.set (m - 1 - (L - 1 - i) / 4) ((x * 10 + d : Nat) : Int)) = ((v * 10 + d : Nat) : Int) ∧ Gs (C.set (m - 1 - (L - 1 - i) / 4) ((x * 10 + d : Nat) : Int)) := by
  obtain ⟨P, y, rfl, hP, hG, hy, hv⟩ := h
  have hxy : x = y := by
    rw [← hP] at hx
    have h9 : (x : Int) = y := by simpa using hx.symm
    omega
  subst hxy
  have h0 : L - 1 - i = 0 := by omega
  rw [h0] at hy hv
  rw [← hP, List.set_append_right _ _ (Nat.le_refl _), Nat.sub_self, List.set_cons_zero, h0]
  simp only [Nat.zero_div, Nat.zero_mod, Nat.sub_zero, Nat.reducePow, Int.reducePow, List.replicate_zero] at hy hv ⊢
  refine ⟨by rw [gv_snoc]; omega, ?_⟩
  intro g hg
  rcases List.mem_append.1 hg with h1 | h1
  · exact hG g h1
  · simp only [List.mem_singleton] at h1; subst h1; omega

/-! ### writing -/
/-- The digits of the first group, then four digits for each further one. -/
def txtG : List Int → List UInt8
  | [] => [48]
  | g :: r => Lib.decDigits g.toNat ++ r.flatMap fun x => pad4 x.toNat
theorem txt_more (n : Nat) (hn : 0 < n) (r : List Int) (hr : Gs r) : Lib.decDigits n ++ (r.flatMap fun x => pad4 x.toNat) = Lib.decDigits (gA n r).toNat := by
  induction r generalizing n with
  | nil => simp [gA]
  | cons g r ih =>
    have hg := hr.head
    rw [List.flatMap_cons, ← List.append_assoc, ← dec_group n g.toNat hn (by omega), ih _ (by omega) hr.tail, gA]
    congr 2; congr 1; omega
theorem txt_grp (n : Nat) : txtG (grp n) = Lib.decDigits n := by
  rcases Nat.eq_zero_or_pos n with rfl | h
  · rw [grp_zero, decDigits_zero]; rfl
  · have h1 := gs_grp n
    have h2 := grp_head n
    have h3 := gv_grp n
    match hd : grp n, grp_ne h with
    | g :: r, _ =>
      rw [hd] at h1 h2 h3
      have hg := h1.head
      have hg0 : g ≠ 0 := by intro e; subst e; simp at h2
      rw [txtG, txt_more _ (by omega) r h1.tail]
      congr 1
      have : gA ((g.toNat : Nat) : Int) r = gv (g :: r) := by
        unfold gv
        rw [gA, show (0 : Int) * 10000 + g = ((g.toNat : Nat) : Int) by omega]
      rw [this, h3]; simp
end Go.Proofs.YtgpncnnlhhmjaaaGreatDoor
namespace Go.Proofs.YtgpncnnlhhmjaaaGreatDoor
open Go

/-- The greatest number whose square is at most n. -/
def rt (n : Nat) : Nat := if h : n = 0 then 0 else (fun r => if (r + 1) * (r + 1) ≤ n then r + 1 else r) (2 * rt (n / 4))
termination_by n
decreasing_by omega
theorem rt_spec (n : Nat) : rt n * rt n ≤ n ∧ n < (rt n + 1) * (rt n + 1) := by
  induction n using Nat.strongRecOn with
  | _ n ih =>
    rw [rt]
    by_cases h : n = 0
    · subst h; simp
    · rw [dif_neg h]
      obtain ⟨h1, h2⟩ := ih (n / 4) (by omega)
      generalize rt (n / 4) = q at *
      show (if (2 * q + 1) * (2 * q + 1) ≤ n then 2 * q + 1 else 2 * q) * (if (2 * q + 1) * (2 * q + 1) ≤ n then 2 * q + 1 else 2 * q) ≤ n ∧ n < ((if (2 * q + 1) * (2 * q + 1) ≤ n then 2 * q + 1 else 2 * q) + 1) * ((if (2 * q + 1) * (2 * q + 1) ≤ n then 2 * q + 1 else 2 * q) + 1)
      have e1 : (2 * q) * (2 * q) = 4 * (q * q) := by rw [Nat.mul_mul_mul_comm]
      have e2 : (2 * q + 1 + 1) * (2 * q + 1 + 1) = 4 * ((q + 1) * (q + 1)) := by rw [show 2 * q + 1 + 1 = 2 * (q + 1) by omega, Nat.mul_mul_mul_comm]
      split
      · rename_i h3; exact ⟨h3, by rw [e2]; omega⟩
      · rename_i h3; exact ⟨by rw [e1]; omega, by omega⟩
theorem sq_lt {a b : Nat} (h : a * a < (b + 1) * (b + 1)) : a ≤ b := by
  rcases Nat.lt_or_ge b a with h1 | h1
  · have := Nat.mul_le_mul (show b + 1 ≤ a from h1) (show b + 1 ≤ a from h1); omega
  · exact h1
theorem rt_unique {n r : Nat} (h1 : r * r ≤ n) (h2 : n < (r + 1) * (r + 1)) : r = rt n := by
  obtain ⟨h3, h4⟩ := rt_spec n
  exact Nat.le_antisymm (sq_lt (Nat.lt_of_le_of_lt h1 h4)) (sq_lt (Nat.lt_of_le_of_lt h3 h2))
theorem rt_le (n : Nat) : rt n ≤ n := by
  obtain ⟨h1, _⟩ := rt_spec n
  rcases Nat.eq_zero_or_pos (rt n) with h | h
  · omega
  · exact Nat.le_trans (Nat.le_mul_of_pos_left _ h) h1

/-! ### a group of a quotient, of a root -/
/-- The greatest group whose amount is at most s. -/
def most (f : Nat → Nat) (s : Nat) : Nat := (List.range 9999).countP fun i => !decide (s < f (i + 1))
theorem countP_prefix (p : Nat → Bool) (q : Nat) : ∀ n, q ≤ n → (∀ i, i < q → p i = true) → (∀ i, q ≤ i → i < n → p i = false) → (List.range n).countP p = q
  | 0, h, _, _ => by simp; omega
  | n + 1, h, h1, h2 => by
    rw [List.range_succ, List.countP_append]
    by_cases hq : q = n + 1
    · subst hq
      have : (List.range n).countP p = n := by
        have := countP_prefix p n n (Nat.le_refl _) (fun i hi => h1 i (by omega)) (fun i a b => by omega)
        exact this
      rw [this, List.countP_cons, h1 n (by omega)]; simp
    · rw [countP_prefix p q n (by omega) h1 (fun i a b => h2 i a (by omega)), List.countP_cons, h2 n (by omega) (by omega)]; simp
theorem most_eq (f : Nat → Nat) (s q : Nat) (hq : q ≤ 9999) (hmono : ∀ a b, a ≤ b → b ≤ 9999 → f a ≤ f b) (h1 : f q ≤ s) (h2 : q < 9999 → s < f (q + 1)) : most f s = q := by
  unfold most
  refine countP_prefix _ q 9999 hq (fun i hi => ?_) (fun i hi hn => ?_)
  · have := hmono (i + 1) q (by omega) hq
    simp; omega
  · have := hmono (q + 1) (i + 1) (by omega) (by omega)
    have := h2 (by omega)
    simp; omega
theorem most_le (f : Nat → Nat) (s : Nat) : most f s ≤ 9999 := by
  unfold most
  exact Nat.le_trans List.countP_le_length (by simp)
theorem most_div (b s : Nat) (hb : 0 < b) (hs : s < b * 10000) : most (fun g => b * g) s = s / b := by
  have h1 : s / b < 10000 := by rw [Nat.div_lt_iff_lt_mul hb, Nat.mul_comm]; exact hs
  refine most_eq _ _ _ (by omega) (fun a c hac _ => Nat.mul_le_mul_left _ hac) (Nat.mul_div_le s b) (fun _ => ?_)
  exact Nat.lt_mul_div_succ s hb
/-- One more group of a quotient. -/
theorem div_step (b v r g q : Nat) (hb : 0 < b) (hr : r < b) (hv : v = q * b + r) (hg : g < 10000) :
    r * 10000 + g < b * 10000 ∧ v * 10000 + g = (q * 10000 + (r * 10000 + g) / b) * b + (r * 10000 + g) % b ∧ (r * 10000 + g) % b < b := by
  refine ⟨by omega, ?_, Nat.mod_lt _ hb⟩
  have h := Nat.div_add_mod (r * 10000 + g) b
  rw [Nat.add_mul, Nat.mul_comm ((r * 10000 + g) / b) b, hv, Nat.add_mul, Nat.mul_right_comm q b 10000]
  omega
theorem most_root (r s : Nat) (hs : s < (2 * r + 1) * 100000000) : ∃ g, g ≤ 9999 ∧ most (fun g => (r * 2 * 10000 + g) * g) s = g ∧ (r * 2 * 10000 + g) * g ≤ s ∧ s < (r * 2 * 10000 + (g + 1)) * (g + 1) := by
  have hm : ∀ a b, a ≤ b → (r * 2 * 10000 + a) * a ≤ (r * 2 * 10000 + b) * b := fun a b h => Nat.mul_le_mul (by omega) h
  have key : ∀ k, k ≤ 10000 → s < (r * 2 * 10000 + k) * k → ∃ g, g < k ∧ (r * 2 * 10000 + g) * g ≤ s ∧ s < (r * 2 * 10000 + (g + 1)) * (g + 1) := by
    intro k
    induction k with
    | zero => intro _ h; simp at h
    | succ k ih =>
      intro hk h
      by_cases h1 : s < (r * 2 * 10000 + k) * k
      · obtain ⟨g, hg, h2, h3⟩ := ih (by omega) h1
        exact ⟨g, by omega, h2, h3⟩
      · exact ⟨k, by omega, by omega, h⟩
  have h0 : (r * 2 * 10000 + 10000) * 10000 = (2 * r + 1) * 100000000 := by rw [Nat.add_mul, Nat.mul_assoc, Nat.mul_assoc]; omega
  obtain ⟨g, hg, h1, h2⟩ := key 10000 (Nat.le_refl _) (by rw [h0]; exact hs)
  exact ⟨g, by omega, most_eq _ _ _ (by omega) (fun a b h _ => hm a b h) h1 (fun _ => h2), h1, h2⟩
theorem root_sq (r g : Nat) : (r * 10000 + g) * (r * 10000 + g) = r * r * 100000000 + (r * 2 * 10000 + g) * g := by
  rw [Nat.add_mul, Nat.mul_add, Nat.mul_add, Nat.add_mul, Nat.mul_mul_mul_comm]
  have e1 : r * 10000 * g = 10000 * (r * g) := by rw [Nat.mul_right_comm, Nat.mul_comm]
  have e2 : g * (r * 10000) = 10000 * (r * g) := by rw [Nat.mul_comm, e1]
  have e3 : r * 2 * 10000 * g = 20000 * (r * g) := by rw [Nat.mul_assoc r, Nat.mul_right_comm, Nat.mul_comm]
  omega
/-- Where the root stands when some groups of the number v have been read: pairs of groups give one of the root. -/
def RootAt (even : Bool) (v r s : Nat) : Prop := if even then v = r * r + s ∧ s ≤ 2 * r else v = r * r * 10000 + s ∧ s < (2 * r + 1) * 10000
theorem root_open {v r s g : Nat} (h : RootAt true v r s) (hg : g < 10000) : RootAt false (v * 10000 + g) r (s * 10000 + g) := by
  simp only [RootAt, if_true] at h
  simp only [RootAt, Bool.false_eq_true, if_false]
  omega
theorem root_shut {v r s g : Nat} (h : RootAt false v r s) (hg : g < 10000) :
    ∃ x, x ≤ 9999 ∧ most (fun g => (r * 2 * 10000 + g) * g) (s * 10000 + g) = x ∧ (r * 2 * 10000 + x) * x ≤ s * 10000 + g ∧ RootAt true (v * 10000 + g) (r * 10000 + x) (s * 10000 + g - (r * 2 * 10000 + x) * x) := by
  simp only [RootAt, Bool.false_eq_true, if_false] at h
  obtain ⟨x, hx, h1, h2, h3⟩ := most_root r (s * 10000 + g) (by omega)
  refine ⟨x, hx, h1, h2, ?_⟩
  simp only [RootAt, if_true]
  rw [root_sq]
  have e : (r * 2 * 10000 + (x + 1)) * (x + 1) = (r * 2 * 10000 + x) * x + r * 2 * 10000 + 2 * x + 1 := by
    rw [Nat.mul_add, Nat.mul_one, ← Nat.add_assoc (r * 2 * 10000) x 1, Nat.add_mul (r * 2 * 10000 + x) 1 x]; omega
  omega
theorem root_done {v r s : Nat} (h : RootAt true v r s) : r = rt v := by
  simp only [RootAt, if_true] at h
  refine rt_unique (by omega) ?_
  have : (r + 1) * (r + 1) = r * r + 2 * r + 1 := by rw [Nat.add_mul, Nat.mul_add]; omega
  omega
theorem root_start (even : Bool) : RootAt even 0 0 0 := by unfold RootAt; split <;> simp

/-! ### the answers -/
/-- An integer as a Go string. -/
def str (l : List UInt8) : ByteArray := ⟨l.toArray⟩
def dec (z : Int) : ByteArray := str (Lib.itoa z)
theorem str_list (l : List UInt8) : (str l).data.toList = l := rfl
theorem str_inj {a b : List UInt8} (h : str a = str b) : a = b := by have := congrArg (fun s => s.data.toList) h; exact this
theorem str_self (s : ByteArray) : str s.data.toList = s := rfl
/-- What a number leads to: ErrInteger where it has too many digits. -/
def outT (z : Int) : ByteArray := if fits z then dec z else ByteArray.empty
def outE (z : Int) : Int := if fits z then 0 else 30
def both (a b : ByteArray) : Bool := validB a.data.toList && validB b.data.toList
def numB (a : ByteArray) : Int := num a.data.toList
def opT (f : Int → Int → Int) (a b : ByteArray) : ByteArray := if both a b then outT (f (numB a) (numB b)) else ByteArray.empty
def opE (f : Int → Int → Int) (a b : ByteArray) : Int := if both a b then outE (f (numB a) (numB b)) else 30
def cmpS (a b : ByteArray) : Int := if both a b then cmpI (numB a) (numB b) else 0
theorem valid_dec (z : Int) : validB (dec z).data.toList = fits z := valid_itoa z
theorem num_dec (z : Int) : numB (dec z) = z := num_itoa z
theorem dec_numB (a : ByteArray) (h : validB a.data.toList = true) : dec (numB a) = a := by
  unfold dec numB; rw [itoa_num _ h]; rfl
theorem dec_inj {a b : Int} (h : dec a = dec b) : a = b := itoa_inj (str_inj h)
end Go.Proofs.YtgpncnnlhhmjaaaGreatDoor
