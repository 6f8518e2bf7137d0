/- Numbers in groups of four digits: lists of integers, the most significant first. No program. -/
import Derived.Test.YtnehkoedmcnjoaaGreatDoorDec
namespace Go.Proofs.YtnehkoedmcnjoaaGreatDoor
open Go

/-- The number of a list of columns, whatever they hold. -/
def gA (a : Int) : List Int → Int
  | [] => a
  | g :: r => gA (a * 10000 + g) r
def gv (l : List Int) : Int := gA 0 l
/-- Groups are from 0 to 9999. -/
def Gs (l : List Int) : Prop := ∀ g ∈ l, 0 ≤ g ∧ g < 10000
/-- The groups of a number: no 0 in front. -/
def grp (n : Nat) : List Int := if h : n = 0 then [] else grp (n / 10000) ++ [((n % 10000 : Nat) : Int)]
termination_by n
decreasing_by omega

theorem gA_append (a : Int) (l r : List Int) : gA a (l ++ r) = gA (gA a l) r := by
  induction l generalizing a with
  | nil => rfl
  | cons b l ih => simp [gA, ih]
theorem gv_snoc (l : List Int) (g : Int) : gv (l ++ [g]) = gv l * 10000 + g := by simp [gv, gA_append, gA]
theorem gA_eq (a : Int) (l : List Int) : gA a l = a * 10000 ^ l.length + gv l := by
  induction l generalizing a with
  | nil => simp [gA, gv]
  | cons g l ih =>
    unfold gv
    simp only [gA, List.length_cons]
    rw [ih, ih (0 * 10000 + g), Int.pow_succ]
    simp only [Int.zero_mul, Int.zero_add, Int.add_mul, Int.mul_assoc, Int.mul_comm (10000 : Int), Int.add_assoc]
theorem gv_cons (g : Int) (l : List Int) : gv (g :: l) = g * 10000 ^ l.length + gv l := by
  unfold gv
  rw [gA, gA_eq]
  simp [gv]
theorem gv_append (l r : List Int) : gv (l ++ r) = gv l * 10000 ^ r.length + gv r := by unfold gv; rw [gA_append, gA_eq]; rfl
theorem gv_nil : gv [] = 0 := rfl
theorem gv_zeros (k : Nat) : gv (List.replicate k 0) = 0 := by
  induction k with
  | zero => rfl
  | succ k ih => rw [List.replicate_succ, gv_cons, ih]; simp
theorem pow_pos4 (k : Nat) : (0 : Int) < 10000 ^ k := Int.pow_pos (by decide)
theorem Gs.tail {g : Int} {l : List Int} (h : Gs (g :: l)) : Gs l := fun x hx => h x (by simp [hx])
theorem Gs.head {g : Int} {l : List Int} (h : Gs (g :: l)) : 0 ≤ g ∧ g < 10000 := h g (by simp)
theorem gv_lt {l : List Int} (h : Gs l) : 0 ≤ gv l ∧ gv l < 10000 ^ l.length := by
  induction l with
  | nil => simp [gv, gA]
  | cons g l ih =>
    have h1 := ih h.tail
    have h2 := h.head
    rw [gv_cons, List.length_cons, Int.pow_succ]
    have hp := pow_pos4 l.length
    constructor
    · have := Int.mul_nonneg h2.1 (Int.le_of_lt hp); omega
    · have h3 : g * 10000 ^ l.length ≤ 9999 * 10000 ^ l.length := Int.mul_le_mul_of_nonneg_right (by omega) (Int.le_of_lt hp)
      omega
theorem grp_zero : grp 0 = [] := by rw [grp, dif_pos rfl]
theorem grp_pos {n : Nat} (h : 0 < n) : grp n = grp (n / 10000) ++ [((n % 10000 : Nat) : Int)] := by rw [grp, dif_neg (by omega)]
theorem grp_snoc (n g : Nat) (hg : g < 10000) (h : 0 < n * 10000 + g) : grp (n * 10000 + g) = grp n ++ [(g : Int)] := by
  rw [grp_pos h, show (n * 10000 + g) / 10000 = n by omega, show (n * 10000 + g) % 10000 = g by omega]
theorem grp_one {g : Nat} (h0 : 0 < g) (h : g < 10000) : grp g = [(g : Int)] := by
  have := grp_snoc 0 g h (by omega)
  simpa [grp_zero] using this
theorem gs_grp (n : Nat) : Gs (grp n) := by
  induction n using Nat.strongRecOn with
  | _ n ih =>
    rcases Nat.eq_zero_or_pos n with rfl | h
    · rw [grp_zero]; intro g hg; simp at hg
    · rw [grp_pos h]
      intro g hg
      rcases List.mem_append.1 hg with h1 | h1
      · exact ih _ (by omega) g h1
      · simp only [List.mem_singleton] at h1; subst h1; omega
theorem gv_grp (n : Nat) : gv (grp n) = n := by
  induction n using Nat.strongRecOn with
  | _ n ih =>
    rcases Nat.eq_zero_or_pos n with rfl | h
    · rw [grp_zero]; rfl
    · rw [grp_pos h, gv_snoc, ih _ (by omega)]; omega
theorem grp_ne {n : Nat} (h : 0 < n) : grp n ≠ [] := by rw [grp_pos h]; simp
theorem grp_nil {n : Nat} : grp n = [] ↔ n = 0 := by
  constructor
  · intro h
    rcases Nat.eq_zero_or_pos n with h1 | h1
    · exact h1
    · exact absurd h (grp_ne h1)
  · rintro rfl; exact grp_zero
theorem grp_head (n : Nat) : (grp n).head? ≠ some 0 := by
  induction n using Nat.strongRecOn with
  | _ n ih =>
    rcases Nat.eq_zero_or_pos n with rfl | h
    · rw [grp_zero]; simp
    · rw [grp_pos h, List.head?_append]
      rcases Nat.eq_zero_or_pos (n / 10000) with h1 | h1
      · rw [h1, grp_zero]; simp; omega
      · have := ih (n / 10000) (by omega)
        match hd : grp (n / 10000), grp_ne h1 with
        | b :: r, _ => rw [hd] at this; simpa using this
theorem grp_len (n k : Nat) : (grp n).length ≤ k ↔ n < 10000 ^ k := by
  induction k generalizing n with
  | zero => simp [grp_nil]
  | succ k ih =>
    rcases Nat.eq_zero_or_pos n with rfl | h
    · simp [grp_zero, Nat.pow_pos]
    · rw [grp_pos h, List.length_append, List.length_singleton, Nat.pow_succ]
      have := ih (n / 10000)
      constructor
      · intro h1; have := this.1 (by omega); omega
      · intro h1; have := this.2 (by omega); omega
/-- Groups without a 0 in front are those of their number. -/
theorem grp_gv : ∀ (k : Nat) (l : List Int), l.length = k → Gs l → l.head? ≠ some 0 → grp (gv l).toNat = l
  | 0, l, hk, _, _ => by
    obtain rfl := List.length_eq_zero_iff.1 hk
    simp [gv, gA, grp_zero]
  | k + 1, l, hk, hg, hh => by
    obtain ⟨r, g, rfl⟩ : ∃ r g, l = r ++ [g] := ⟨l.dropLast, l.getLast (by intro e; simp [e] at hk), (List.dropLast_concat_getLast _).symm⟩
    have hr : r.length = k := by simpa using hk
    have hgr : Gs r := fun x hx => hg x (by simp [hx])
    have hgg := hg g (by simp)
    have h1 := gv_lt hgr
    rw [gv_snoc]
    rcases Nat.eq_zero_or_pos k with h0 | h0
    · obtain rfl := List.length_eq_zero_iff.1 (hr.trans h0)
      have hg0 : g ≠ 0 := by intro e; exact hh (by simp [e])
      simp only [gv_nil, Int.zero_mul, Int.zero_add, List.nil_append]
      rw [grp_one (by omega) (by omega), Int.toNat_of_nonneg hgg.1]
    · have hrh : r.head? ≠ some 0 := by
        match r, hr with
        | [], hr => simp at hr; omega
        | b :: r', _ => simpa using hh
      have ih := grp_gv k r hr hgr hrh
      have hp : 0 < (gv r).toNat := by
        rcases Nat.eq_zero_or_pos (gv r).toNat with h2 | h2
        · rw [h2, grp_zero] at ih; rw [← ih] at hr; simp at hr; omega
        · exact h2
      have e : (gv r * 10000 + g).toNat = (gv r).toNat * 10000 + g.toNat := by omega
      rw [e, grp_snoc _ _ (by omega) (by omega), ih]
      congr 2; omega
/-- Zeros in front. -/
theorem gv_strip (k : Nat) (l : List Int) : gv (List.replicate k 0 ++ l) = gv l := by rw [gv_append, gv_zeros]; simp

/-! ### carry -/
def carL : List Int → List Int × Int
  | [] => ([], 0)
  | c :: r => (((c + (carL r).2) % 10000) :: (carL r).1, (c + (carL r).2) / 10000)
theorem carL_len (l : List Int) : (carL l).1.length = l.length := by induction l with | nil => rfl | cons c l ih => simp [carL, ih]
theorem carL_gs (l : List Int) : Gs (carL l).1 := by
  induction l with
  | nil => intro g hg; simp [carL] at hg
  | cons c l ih =>
    intro g hg
    simp only [carL, List.mem_cons] at hg
    rcases hg with rfl | h
    · omega
    · exact ih g h
theorem carL_gv (l : List Int) : gv l = (carL l).2 * 10000 ^ l.length + gv (carL l).1 := by
  induction l with
  | nil => simp [carL, gv, gA]
  | cons c l ih =>
    rw [gv_cons, ih, carL, gv_cons, carL_len, List.length_cons, Int.pow_succ]
    have e := Int.mul_ediv_add_emod (c + (carL l).2) 10000
    generalize (c + (carL l).2) / 10000 = q at *
    generalize (c + (carL l).2) % 10000 = m at *
    have e2 : (c + (carL l).2) * 10000 ^ l.length = (10000 * q + m) * 10000 ^ l.length := by rw [e]
    rw [Int.add_mul, Int.add_mul] at e2
    have e3 : q * (10000 ^ l.length * 10000) = 10000 * q * 10000 ^ l.length := by rw [Int.mul_comm 10000 q, Int.mul_assoc, Int.mul_comm 10000]
    rw [e3]
    omega
theorem carL_bound (l : List Int) (M : Int) (hM : 0 ≤ M) (h : ∀ c ∈ l, -M ≤ c ∧ c ≤ M) : -M - 1 ≤ (carL l).2 ∧ (carL l).2 ≤ M + 1 := by
  induction l with
  | nil => simp [carL]; omega
  | cons c l ih =>
    have h1 := ih (fun x hx => h x (by simp [hx]))
    have h2 := h c (by simp)
    simp only [carL]
    omega
theorem carL_zero (l : List Int) (h0 : 0 ≤ gv l) (h1 : gv l < 10000 ^ l.length) : (carL l).2 = 0 ∧ gv (carL l).1 = gv l := by
  have e := carL_gv l
  have hb := gv_lt (carL_gs l)
  rw [carL_len] at hb
  have hp := pow_pos4 l.length
  generalize (carL l).2 = k at *
  have hk : k = 0 := by
    rcases Int.lt_trichotomy k 0 with h | h | h
    · have : k * 10000 ^ l.length ≤ (-1) * 10000 ^ l.length := Int.mul_le_mul_of_nonneg_right (by omega) (Int.le_of_lt hp)
      omega
    · exact h
    · have : 1 * 10000 ^ l.length ≤ k * 10000 ^ l.length := Int.mul_le_mul_of_nonneg_right (by omega) (Int.le_of_lt hp)
      omega
  subst hk
  exact ⟨rfl, by omega⟩
/-- The zeros in front of a list. -/
def zer : List Int → Nat
  | [] => 0
  | g :: r => if g = 0 then zer r + 1 else 0
theorem zer_le (l : List Int) : zer l ≤ l.length := by
  induction l with
  | nil => exact Nat.le_refl _
  | cons g r ih => simp only [zer]; split <;> simp <;> omega
theorem zer_split (l : List Int) : List.replicate (zer l) 0 ++ l.drop (zer l) = l := by
  induction l with
  | nil => rfl
  | cons g r ih =>
    simp only [zer]
    split
    · subst_vars; simp [List.replicate_succ, ih]
    · simp
theorem zer_head (l : List Int) : (l.drop (zer l)).head? ≠ some 0 := by
  induction l with
  | nil => simp [zer]
  | cons g r ih =>
    simp only [zer]
    split
    · simpa using ih
    · simpa using by assumption
theorem grp_drop (l : List Int) (h : Gs l) : l.drop (zer l) = grp (gv l).toNat := by
  have e := zer_split l
  have hg : gv l = gv (l.drop (zer l)) := by
    have h1 := gv_strip (zer l) (l.drop (zer l))
    rw [e] at h1; exact h1
  rw [hg]
  exact (grp_gv _ _ rfl (fun g hg => h g (List.mem_of_mem_drop hg)) (zer_head l)).symm

/-! ### reading -/
/-- The columns of a number: zeros in front. -/
def cols (k n : Nat) : List Int := List.replicate (k - (grp n).length) 0 ++ grp n
theorem cols_len (k n : Nat) (h : n < 10000 ^ k) : (cols k n).length = k := by
  have := (grp_len n k).2 h
  simp [cols]; omega
theorem cols_gv (k n : Nat) : gv (cols k n) = n := by rw [cols, gv_strip, gv_grp]
theorem cols_gs (k n : Nat) : Gs (cols k n) := by
  intro g hg
  rcases List.mem_append.1 hg with h | h
  · rw [List.eq_of_mem_replicate h]; omega
  · exact gs_grp n g h

/-! ### columns added -/
theorem gv_add : ∀ (l r : List Int), l.length = r.length → gv (List.zipWith (· + ·) l r) = gv l + gv r
  | [], [], _ => rfl
  | a :: l, b :: r, h => by
    have h1 : l.length = r.length := by simpa using h
    rw [List.zipWith_cons_cons, gv_cons, gv_cons, gv_cons, gv_add l r h1, List.length_zipWith, h1, Nat.min_self, Int.add_mul]
    omega
theorem gv_sub : ∀ (l r : List Int), l.length = r.length → gv (List.zipWith (· - ·) l r) = gv l - gv r
  | [], [], _ => rfl
  | a :: l, b :: r, h => by
    have h1 : l.length = r.length := by simpa using h
    rw [List.zipWith_cons_cons, gv_cons, gv_cons, gv_cons, gv_sub l r h1, List.length_zipWith, h1, Nat.min_self, Int.sub_mul]
    omega
theorem gv_mul (k : Int) (l : List Int) : gv (l.map (· * k)) = gv l * k := by
  induction l with
  | nil => simp [gv, gA]
  | cons a l ih => rw [List.map_cons, gv_cons, gv_cons, ih, List.length_map, Int.add_mul, Int.mul_assoc, Int.mul_comm k, Int.mul_assoc]

/-! ### order -/
def cmpI (a b : Int) : Int := if a < b then -1 else if b < a then 1 else 0
def cmpL : List Int → List Int → Int
  | [], [] => 0
  | [], _ :: _ => -1
  | _ :: _, [] => 1
  | a :: l, b :: r => if cmpI a b = 0 then cmpL l r else cmpI a b
theorem cmpI_eq {a b : Int} : cmpI a b = 0 ↔ a = b := by unfold cmpI; split <;> (try split) <;> omega
theorem cmpL_gv : ∀ (l r : List Int), l.length = r.length → Gs l → Gs r → cmpL l r = cmpI (gv l) (gv r)
  | [], [], _, _, _ => rfl
  | a :: l, b :: r, h, hl, hr => by
    have h1 : l.length = r.length := by simpa using h
    have ih := cmpL_gv l r h1 hl.tail hr.tail
    have b1 := gv_lt hl.tail
    have b2 := gv_lt hr.tail
    rw [gv_cons, gv_cons, h1] at *
    have hp := pow_pos4 r.length
    rw [cmpL]
    split
    · rename_i e
      have e := cmpI_eq.1 e
      subst e
      rw [ih]
      unfold cmpI
      split <;> split <;> (try split) <;> (try split) <;> omega
    · rename_i e
      have e : a ≠ b := fun h => e (cmpI_eq.2 h)
      unfold cmpI
      rcases Int.lt_or_gt_of_ne e with h2 | h2
      · have : a * 10000 ^ r.length ≤ (b - 1) * 10000 ^ r.length := Int.mul_le_mul_of_nonneg_right (by omega) (Int.le_of_lt hp)
        rw [Int.sub_mul] at this
        rw [if_pos h2, if_pos (by omega)]
      · have : b * 10000 ^ r.length ≤ (a - 1) * 10000 ^ r.length := Int.mul_le_mul_of_nonneg_right (by omega) (Int.le_of_lt hp)
        rw [Int.sub_mul] at this
        rw [if_neg (by omega), if_pos h2, if_neg (by omega), if_pos (by omega)]
/-- Groups compare as the numbers do: the longer is the greater. -/
theorem cmp_grp (a b : Nat) : (if (grp a).length = (grp b).length then cmpL (grp a) (grp b) else cmpI ((grp a).length : Int) ((grp b).length : Int)) = cmpI (a : Int) (b : Int) := by
  split
  · rename_i h
    rw [cmpL_gv _ _ h (gs_grp a) (gs_grp b), gv_grp, gv_grp]
  · rename_i h
    have ha := (grp_len a (grp a).length).1 (Nat.le_refl _)
    have hb := (grp_len b (grp b).length).1 (Nat.le_refl _)
    unfold cmpI
    rcases Nat.lt_or_gt_of_ne h with h1 | h1
    · have h2 : ¬ b < 10000 ^ (grp a).length := fun hc => by have := (grp_len b _).2 hc; omega
      rw [if_pos (by omega), if_pos (by omega)]
    · have h2 : ¬ a < 10000 ^ (grp b).length := fun hc => by have := (grp_len a _).2 hc; omega
      rw [if_neg (by omega), if_pos (by omega), if_neg (by omega), if_pos (by omega)]

/-! ### text -/
/-- The four digits of a group. -/
def pad4 (g : Nat) : List UInt8 := (Lib.decDigits (10000 + g)).tail
theorem dec_5 (n : Nat) (h : 10000 ≤ n) : Lib.decDigits n = Lib.decDigits (n / 10000) ++ [UInt8.ofNat (48 + n / 1000 % 10), UInt8.ofNat (48 + n / 100 % 10), UInt8.ofNat (48 + n / 10 % 10), UInt8.ofNat (48 + n % 10)] := by
  rw [decDigits_big (by omega), decDigits_big (n := n / 10) (by omega), decDigits_big (n := n / 10 / 10) (by omega), decDigits_big (n := n / 10 / 10 / 10) (by omega)]
  rw [show n / 10 / 10 / 10 / 10 = n / 10000 by omega, show n / 10 / 10 / 10 = n / 1000 by omega, show n / 10 / 10 = n / 100 by omega]
  simp
theorem pad4_eq (g : Nat) (h : g < 10000) : pad4 g = [UInt8.ofNat (48 + g / 1000), UInt8.ofNat (48 + g / 100 % 10), UInt8.ofNat (48 + g / 10 % 10), UInt8.ofNat (48 + g % 10)] := by
  rw [pad4, dec_5 _ (by omega), show (10000 + g) / 10000 = 1 by omega, decDigits_small (show 1 < 10 by decide), show (10000 + g) / 1000 % 10 = g / 1000 by omega,
    show (10000 + g) / 100 % 10 = g / 100 % 10 by omega, show (10000 + g) / 10 % 10 = g / 10 % 10 by omega, show (10000 + g) % 10 = g % 10 by omega]
  rfl
theorem dec_group (n g : Nat) (hn : 0 < n) (hg : g < 10000) : Lib.decDigits (n * 10000 + g) = Lib.decDigits n ++ pad4 g := by
  rw [dec_5 _ (by omega), pad4_eq g hg, show (n * 10000 + g) / 10000 = n by omega, show (n * 10000 + g) / 1000 % 10 = g / 1000 by omega,
    show (n * 10000 + g) / 100 % 10 = g / 100 % 10 by omega, show (n * 10000 + g) / 10 % 10 = g / 10 % 10 by omega, show (n * 10000 + g) % 10 = g % 10 by omega]
/-- The digits behind a number, group by group. -/
def txt (n : Nat) : List Int → List UInt8
  | [] => Lib.decDigits n
  | g :: r => txt (n * 10000 + g.toNat) r
end Go.Proofs.YtnehkoedmcnjoaaGreatDoor
