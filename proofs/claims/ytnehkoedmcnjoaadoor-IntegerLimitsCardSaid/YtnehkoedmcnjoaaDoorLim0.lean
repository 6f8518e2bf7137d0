/- The limits: rows of nines, picks; the numbers behind them. -/
import Derived.Test.YtnehkoedmcnjoaaDoorBd
namespace Go.Proofs.YtnehkoedmcnjoaaDoor
open Go.RowKit

/-- A text of k nines. -/
def nin (k : Nat) : ByteArray := str (List.replicate k 57)
theorem nin_zero : nin 0 = ⟨#[]⟩ := rfl
theorem nin_size (k : Nat) : (nin k).size = k := by show (List.replicate k (57 : UInt8)).toArray.size = k; simp
theorem nin_succ (k : Nat) : nin k ++ ⟨#[57]⟩ = nin (k + 1) := by
  apply ByteArray.ext
  rw [ByteArray.data_append]
  show (List.replicate k (57 : UInt8)).toArray ++ #[57] = (List.replicate (k + 1) (57 : UInt8)).toArray
  apply Array.toList_inj.1
  rw [List.replicate_succ']
  simp
theorem dec9 : ∀ k : Nat, 0 < k → Lib.decDigits (10 ^ k - 1) = List.replicate k 57
  | 0, h => by omega
  | 1, _ => by rw [show 10 ^ 1 - 1 = 9 from rfl, decDigits_small (by decide)]; rfl
  | k + 2, _ => by
    have hp := Nat.pow_pos (n := k + 1) (show 0 < 10 by decide)
    have h10 : 10 ≤ 10 ^ (k + 2) - 1 := by rw [Nat.pow_succ]; have : 10 ^ 1 ≤ 10 ^ (k + 1) := Nat.pow_le_pow_right (by decide) (by omega); omega
    have e1 : (10 ^ (k + 2) - 1) / 10 = 10 ^ (k + 1) - 1 := by rw [Nat.pow_succ]; omega
    have e2 : (10 ^ (k + 2) - 1) % 10 = 9 := by rw [Nat.pow_succ]; omega
    rw [decDigits_big h10, e1, e2, dec9 (k + 1) (by omega), List.replicate_succ' (n := k + 1)]
    rfl
theorem nin_dec (k : Nat) (h : 0 < k) : nin k = dec ((10 ^ k - 1 : Nat) : Int) := by rw [dec_nat, dec9 k h]; rfl
theorem dec19 : ∀ k : Nat, Lib.decDigits (2 * 10 ^ k - 1) = 49 :: List.replicate k 57
  | 0 => by rw [show 2 * 10 ^ 0 - 1 = 1 from rfl, decDigits_small (by decide)]; rfl
  | k + 1 => by
    have hp := Nat.pow_pos (n := k) (show 0 < 10 by decide)
    have h10 : 10 ≤ 2 * 10 ^ (k + 1) - 1 := by rw [Nat.pow_succ]; omega
    have e1 : (2 * 10 ^ (k + 1) - 1) / 10 = 2 * 10 ^ k - 1 := by rw [Nat.pow_succ]; omega
    have e2 : (2 * 10 ^ (k + 1) - 1) % 10 = 9 := by rw [Nat.pow_succ]; omega
    rw [decDigits_big h10, e1, e2, dec19 k, List.replicate_succ']
    rfl
theorem nin_one (k : Nat) : (⟨#[49]⟩ : ByteArray) ++ nin k = dec ((2 * 10 ^ k - 1 : Nat) : Int) := by
  rw [dec_nat, dec19]
  apply ByteArray.ext
  rw [ByteArray.data_append]
  show #[49] ++ (List.replicate k (57 : UInt8)).toArray = (49 :: List.replicate k (57 : UInt8)).toArray
  simp
theorem nin_minus (k : Nat) (h : 0 < k) : (⟨#[45]⟩ : ByteArray) ++ nin k = dec (-((10 ^ k - 1 : Nat) : Int)) := by
  have hp : 10 ^ 1 ≤ 10 ^ k := Nat.pow_le_pow_right (by decide) h
  have e : Lib.itoa (-((10 ^ k - 1 : Nat) : Int)) = 45 :: List.replicate k 57 := by
    rw [Lib.itoa, if_pos (by omega), Int.natAbs_neg, Int.natAbs_natCast, dec9 k h]
  rw [dec, e]
  apply ByteArray.ext
  rw [ByteArray.data_append]
  show #[45] ++ (List.replicate k (57 : UInt8)).toArray = (45 :: List.replicate k (57 : UInt8)).toArray
  simp
theorem not_fits {z : Int} (h : 10 ^ 200 ≤ z.natAbs) : fits z = false := by
  simp only [fits, decide_eq_false_iff_not]
  exact Nat.not_lt.2 h
theorem nin_bad : validB (nin 201).data.toList = false := by
  rw [nin_dec 201 (by decide), valid_dec]
  refine not_fits ?_
  have : 10 ^ 201 = 10 * 10 ^ 200 := by rw [show (201 : Nat) = 200 + 1 from rfl, Nat.pow_succ, Nat.mul_comm]
  have := Nat.pow_pos (n := 200) (show 0 < 10 by decide)
  omega
def pk (c : Int) : Nat := ((if c < 0 then -(c + 1) else c).toNat) % 200
theorem pk_lt (c : Int) : pk c < 200 := Nat.mod_lt _ (by decide)
theorem decz_len (n k : Nat) (h0 : 10 ^ k ≤ n) (h1 : n < 10 ^ (k + 1)) : (dec (n : Int)).size = k + 1 := by
  rw [dec_nat]
  show (Lib.decDigits n).length = k + 1
  have a := (decDigits_len_le n k).2 h1
  cases k with
  | zero => have := List.length_pos_iff.2 (decDigits_ne n); omega
  | succ k =>
    have b := mt (decDigits_len_le n k).1 (by omega)
    omega

set_option maxRecDepth 100000 in
set_option maxHeartbeats 2000000 in
theorem nines_any (k : Nat) (hk : k ≤ 200) (w : World) :
    Calls Tryd.prog 23 #[.int .i64 k] w fun e w' => e = .returned (.string (nin k)) ∧ w' = w := by
  go_enter Tryd.func23, Tryd.ntmps23
  go_wp2
  go_loop [3, 4] (fun v p => ∃ (j : Nat) (N : ByteArray), v = .string N ∧ p = .int .i64 j ∧ j ≤ k ∧ Hid (N = nin j) ∧ N.size = j) (fun _ p => k - (intOf p).toNat)
  case atStart => exact ⟨0, _, rfl, rfl, by omega, Lib.hid nin_zero.symm, rfl⟩
  case round =>
    obtain ⟨j, N, rfl, rfl, hj, HN, hs⟩ := hrel
    by_cases h : j < k
    · have h1 : (j : Int) < (k : Int) := by omega
      obtain ⟨M, hM⟩ : ∃ M, N ++ (⟨#[57]⟩ : ByteArray) = M := ⟨_, rfl⟩
      have HM := Lib.hid (show M = nin (j + 1) by rw [← hM, HN.out, nin_succ])
      have hs2 : M.size = j + 1 := by rw [HM.out, nin_size]
      have b1 : N.size ≤ 1000 := by omega
      go_wp2
      go_round
      case rel => exact ⟨j + 1, M, rfl, by go_num, by omega, HM, hs2⟩
      case measure => simp [intOf]; omega
    · have h1 : ¬ (j : Int) < (k : Int) := by omega
      have hjk : j = k := by omega
      go_wp2
      go_ret
      exact ⟨by rw [HN.out, hjk]; rfl, rfl⟩
set_option maxRecDepth 100000 in
theorem pick_any (c : Int) (h0 : -9223372036854775808 ≤ c) (h1 : c ≤ 9223372036854775807) (w : World) :
    Calls Tryd.prog 24 #[.int .i64 c, .int .i64 200] w fun e w' => e = .returned (.int .i64 (pk c)) ∧ w' = w := by
  obtain ⟨p, hp⟩ : ∃ p : Nat, p = pk c := ⟨_, rfl⟩
  rw [← hp]
  have hl := pk_lt c
  rw [← hp] at hl
  by_cases h : c < 0
  · have a1 : wrap64 (c + 1) = c + 1 := w64_in _ (by omega) (by omega)
    have a2 : wrap64 (-(c + 1)) = -(c + 1) := w64_in _ (by omega) (by omega)
    have a3 : (-(c + 1)).tmod 200 = (p : Int) := by rw [hp, pk, if_pos h, Int.tmod_eq_emod_of_nonneg (by omega)]; omega
    have a4 : wrap64 (p : Int) = (p : Int) := w64_in _ (by omega) (by omega)
    clear hp hl
    go_enter Tryd.func24, Tryd.ntmps24
    go_wp2
    go_ret
    exact ⟨rfl, rfl⟩
  · have a3 : c.tmod 200 = (p : Int) := by rw [hp, pk, if_neg h, Int.tmod_eq_emod_of_nonneg (by omega)]; omega
    have a4 : wrap64 (p : Int) = (p : Int) := w64_in _ (by omega) (by omega)
    clear hp hl
    go_enter Tryd.func24, Tryd.ntmps24
    go_wp2
    go_ret
    exact ⟨rfl, rfl⟩
theorem add_big' {a b : ByteArray} {x y : Int} (ha : a = dec x) (hb : b = dec y) (hz : fits (x + y) = false) (fx : fits x = true) (fy : fits y = true) (w : World) (ht : Tab w) :
    Calls Tryd.prog 14 #[.string a, .string b] w fun e w' => e = .returned (.tuple #[.string ⟨#[]⟩, .int .i64 30]) ∧ Below w.heap.size w w' := add_big ha hb hz fx fy w ht
theorem sub_big' {a b : ByteArray} {x y : Int} (ha : a = dec x) (hb : b = dec y) (hz : fits (x - y) = false) (fx : fits x = true) (fy : fits y = true) (w : World) (ht : Tab w) :
    Calls Tryd.prog 15 #[.string a, .string b] w fun e w' => e = .returned (.tuple #[.string ⟨#[]⟩, .int .i64 30]) ∧ Below w.heap.size w w' := sub_big ha hb hz fx fy w ht
theorem mul_big' {a b : ByteArray} {x y : Int} (ha : a = dec x) (hb : b = dec y) (hz : fits (x * y) = false) (fx : fits x = true) (fy : fits y = true) (w : World) (ht : Tab w) :
    Calls Tryd.prog 16 #[.string a, .string b] w fun e w' => e = .returned (.tuple #[.string ⟨#[]⟩, .int .i64 30]) ∧ Below w.heap.size w w' := mul_big ha hb hz fx fy w ht
theorem add_bad' {b : ByteArray} (w : World) (ht : Tab w) :
    Calls Tryd.prog 14 #[.string ⟨#[]⟩, .string b] w fun e w' => e = .returned (.tuple #[.string ⟨#[]⟩, .int .i64 30]) ∧ Below w.heap.size w w' := add_bad badE w ht
theorem nines_at {k : Nat} {m : Int} {N : ByteArray} (hk : k ≤ 200) (hm : m = (k : Int)) (hN : N = nin k) (w : World) :
    Calls Tryd.prog 23 #[.int .i64 m] w fun e w' => e = .returned (.string N) ∧ Below w.heap.size w w' := by
  subst hm hN
  exact (nines_any k hk w).mono fun e w' ⟨h1, h2⟩ => ⟨h1, by rw [h2]; exact Below.refl _ _⟩
theorem pick_at {c m : Int} (h0 : -9223372036854775808 ≤ c) (h1 : c ≤ 9223372036854775807) (hm : m = (pk c : Int)) (w : World) :
    Calls Tryd.prog 24 #[.int .i64 c, .int .i64 200] w fun e w' => e = .returned (.int .i64 m) ∧ Below w.heap.size w w' := by
  subst hm
  exact (pick_any c h0 h1 w).mono fun e w' ⟨h1, h2⟩ => ⟨h1, by rw [h2]; exact Below.refl _ _⟩
section
variable {x mo : Int} (hmo : mo = ((10 ^ 200 - 1 : Nat) : Int)) (hx : Bd x 5)
theorem fits_mo (hmo : mo = ((10 ^ 200 - 1 : Nat) : Int)) : fits mo = true := by
  have hp := Nat.pow_pos (n := 200) (show 0 < 10 by decide)
  have : Bd mo 200 := by unfold Bd; omega
  exact this.fits (Nat.le_refl _)
theorem fits_nm (hmo : mo = ((10 ^ 200 - 1 : Nat) : Int)) : fits (-mo) = true := by
  have hp := Nat.pow_pos (n := 200) (show 0 < 10 by decide)
  have : Bd (-mo) 200 := by unfold Bd; omega
  exact this.fits (Nat.le_refl _)
theorem big_ge : 10 ^ 5 ≤ 10 ^ 200 := Nat.pow_le_pow_right (by decide) (by decide)
theorem lim_add_fits (hmo : mo = ((10 ^ 200 - 1 : Nat) : Int)) (hx : Bd x 5) (h0 : x ≤ 0) : fits (mo + x) = true := by
  have hp := big_ge
  have : Bd (mo + x) 200 := by unfold Bd at *; omega
  exact this.fits (Nat.le_refl _)
theorem lim_sub_fits (hmo : mo = ((10 ^ 200 - 1 : Nat) : Int)) (hx : Bd x 5) (h0 : x ≤ 0) : fits (-mo - x) = true := by
  have hp := big_ge
  have : Bd (-mo - x) 200 := by unfold Bd at *; omega
  exact this.fits (Nat.le_refl _)
theorem lim_add_big (hmo : mo = ((10 ^ 200 - 1 : Nat) : Int)) (h0 : 0 < x) : fits (mo + x) = false := not_fits (by omega)
theorem lim_sub_big (hmo : mo = ((10 ^ 200 - 1 : Nat) : Int)) (h0 : 0 < x) : fits (-mo - x) = false := not_fits (by omega)
end
theorem fits_one {m : Nat} (h : m < 200) : fits ((10 ^ m : Nat) : Int) = true := by
  have : Bd ((10 ^ m : Nat) : Int) 200 := by unfold Bd; rw [Int.natAbs_natCast]; exact Nat.pow_lt_pow_right (by decide) h
  exact this.fits (Nat.le_refl _)
theorem pow_two_lt (k : Nat) : 2 * 10 ^ k ≤ 10 ^ (k + 1) := by rw [Nat.pow_succ]; omega
theorem fits_two {n : Nat} (h : n < 200) : fits ((2 * 10 ^ n - 1 : Nat) : Int) = true := by
  have : Bd ((2 * 10 ^ n - 1 : Nat) : Int) 200 := by
    unfold Bd; rw [Int.natAbs_natCast]
    have h1 := pow_two_lt n
    have h2 : 10 ^ (n + 1) ≤ 10 ^ 200 := Nat.pow_le_pow_right (by decide) h
    have h3 := Nat.pow_pos (n := n) (show 0 < 10 by decide)
    omega
  exact this.fits (Nat.le_refl _)
theorem prod_bounds (m n : Nat) : 10 ^ (m + n) ≤ 10 ^ m * (2 * 10 ^ n - 1) ∧ 10 ^ m * (2 * 10 ^ n - 1) < 10 ^ (m + n + 1) := by
  have h3 := Nat.pow_pos (n := n) (show 0 < 10 by decide)
  have h4 := Nat.pow_pos (n := m) (show 0 < 10 by decide)
  constructor
  · rw [Nat.pow_add]; exact Nat.mul_le_mul_left _ (by omega)
  · rw [Nat.add_assoc, Nat.pow_add]
    have := pow_two_lt n
    exact Nat.mul_lt_mul_of_pos_left (by omega) h4
theorem prod_cast (m n : Nat) : ((10 ^ m : Nat) : Int) * ((2 * 10 ^ n - 1 : Nat) : Int) = ((10 ^ m * (2 * 10 ^ n - 1) : Nat) : Int) := (Int.natCast_mul _ _).symm
theorem prod_fits {m n : Nat} (h : m + n < 200) : fits (((10 ^ m : Nat) : Int) * ((2 * 10 ^ n - 1 : Nat) : Int)) = true := by
  have : Bd (((10 ^ m : Nat) : Int) * ((2 * 10 ^ n - 1 : Nat) : Int)) 200 := by
    rw [prod_cast]; unfold Bd; rw [Int.natAbs_natCast]
    exact Nat.lt_of_lt_of_le (prod_bounds m n).2 (Nat.pow_le_pow_right (by decide) h)
  exact this.fits (Nat.le_refl _)
theorem prod_big {m n : Nat} (h : ¬ m + n < 200) : fits (((10 ^ m : Nat) : Int) * ((2 * 10 ^ n - 1 : Nat) : Int)) = false := by
  rw [prod_cast]
  refine not_fits ?_
  rw [Int.natAbs_natCast]
  exact Nat.le_trans (Nat.pow_le_pow_right (by decide) (by omega)) (prod_bounds m n).1
theorem prod_len {m n : Nat} (h : m + n < 200) : ((dec (((10 ^ m : Nat) : Int) * ((2 * 10 ^ n - 1 : Nat) : Int))).size : Int) = (m : Int) + (n : Int) + 1 := by
  rw [prod_cast, decz_len _ (m + n) (prod_bounds m n).1 (prod_bounds m n).2]
  omega
theorem nin_add {m : Nat} (h : 0 < m) : ((10 ^ m : Nat) : Int) = ((10 ^ m - 1 : Nat) : Int) + 1 := by
  have h4 := Nat.pow_pos (n := m) (show 0 < 10 by decide)
  omega
theorem fits_nin {m : Nat} (h : m < 200) : fits ((10 ^ m - 1 : Nat) : Int) = true := by
  have : Bd ((10 ^ m - 1 : Nat) : Int) 200 := by
    unfold Bd; rw [Int.natAbs_natCast]
    have : 10 ^ m < 10 ^ 200 := Nat.pow_lt_pow_right (by decide) h
    omega
  exact this.fits (Nat.le_refl _)
theorem lim_mn {m n : Nat} (h1 : m < 200) (h2 : n < 200) : wrap64 ((m : Int) + (n : Int)) = (m : Int) + (n : Int) ∧ wrap64 ((m : Int) + (n : Int) + 1) = (m : Int) + (n : Int) + 1 := ⟨w64_in _ (by omega) (by omega), w64_in _ (by omega) (by omega)⟩
theorem lim_n {n : Nat} (h2 : n < 200) : wrap64 (n : Int) = (n : Int) ∧ wrap64 ((n : Int) + 1) = (n : Int) + 1 := ⟨w64_in _ (by omega) (by omega), w64_in _ (by omega) (by omega)⟩
end Go.Proofs.YtnehkoedmcnjoaaDoor
