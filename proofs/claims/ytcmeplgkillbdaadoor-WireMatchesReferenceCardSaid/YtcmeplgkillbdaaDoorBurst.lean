/- Plain mathematics: a change of at most 32 consecutive bits changes the checksum. No program is named here. -/
import Derived.Test.YtcmeplgkillbdaaDoorCrc
namespace Go.Proofs.YtcmeplgkillbdaaDoor

/-- m bits of V go into the register, the lowest first. -/
def runB : Nat → Nat → BitVec 32 → BitVec 32
  | 0, _, r => r
  | m + 1, V, r => runB m (V / 2) (S1 (r ^^^ BitVec.ofNat 32 (V % 2)))
def S1n : Nat → BitVec 32 → BitVec 32
  | 0, r => r
  | m + 1, r => S1n m (S1 r)
theorem ofNat_split (V : Nat) (h : V < 4294967296) : BitVec.ofNat 32 V = BitVec.ofNat 32 (V % 2) ^^^ (BitVec.ofNat 32 (V / 2)) <<< 1 := by
  apply BitVec.eq_of_getLsbD_eq
  intro i hi
  rw [BitVec.getLsbD_xor, BitVec.getLsbD_shiftLeft]
  simp only [BitVec.getLsbD_ofNat, hi, decide_true, Bool.true_and]
  cases i with
  | zero => simp
  | succ i =>
    have e1 : (V % 2).testBit (i + 1) = false := Nat.testBit_lt_two_pow (Nat.lt_of_lt_of_le (Nat.mod_lt _ (by omega)) (by
      have := Nat.pow_le_pow_right (n := 2) (by omega) (show 1 ≤ i + 1 by omega)
      simpa using this))
    rw [e1, Nat.testBit_succ]
    simp [show i < 32 by omega]
theorem S1_double (b : Nat) (h : b < 2147483648) : S1 ((BitVec.ofNat 32 b) <<< 1) = BitVec.ofNat 32 b := by
  rw [S1_even _ (by simp)]
  apply BitVec.eq_of_toNat_eq
  rw [BitVec.toNat_ushiftRight, BitVec.toNat_shiftLeft, BitVec.toNat_ofNat, Nat.shiftLeft_eq, Nat.shiftRight_eq_div_pow]
  omega
theorem runB_eq : ∀ (m V : Nat) (r : BitVec 32), V < 2 ^ m → V < 4294967296 → runB m V r = S1n m (r ^^^ BitVec.ofNat 32 V)
  | 0, V, r, h, _ => by
    obtain rfl : V = 0 := by simpa using h
    simp [runB, S1n]
  | m + 1, V, r, h, h32 => by
    rw [runB, S1n, runB_eq m (V / 2) _ (by rw [Nat.pow_succ] at h; omega) (by omega)]
    have e : r ^^^ BitVec.ofNat 32 V = (r ^^^ BitVec.ofNat 32 (V % 2)) ^^^ (BitVec.ofNat 32 (V / 2)) <<< 1 := by
      rw [BitVec.xor_assoc, ← ofNat_split V h32]
    rw [e, S1_xor (r ^^^ BitVec.ofNat 32 (V % 2)) ((BitVec.ofNat 32 (V / 2)) <<< 1), S1_double _ (by omega)]
theorem runB_add : ∀ (a b V : Nat) (r : BitVec 32), runB (a + b) V r = runB b (V / 2 ^ a) (runB a V r)
  | 0, b, V, r => by simp [runB]
  | a + 1, b, V, r => by
    rw [show a + 1 + b = (a + b) + 1 by omega, runB, runB, runB_add a b, Nat.div_div_eq_div_mul, Nat.pow_succ, Nat.mul_comm 2]
theorem runB_low : ∀ (a V : Nat) (r : BitVec 32), runB a (V % 2 ^ a) r = runB a V r
  | 0, _, _ => rfl
  | a + 1, V, r => by
    rw [runB, runB, Nat.pow_succ, Nat.mul_comm, Nat.mod_mul_right_div_self, runB_low a (V / 2)]
    congr 4
    rw [Nat.mod_mul_right_mod]
theorem stepB_run (r : BitVec 32) (b : UInt8) : stepB r b = runB 8 b.toNat r := by
  have h := b.toNat_lt
  rw [runB_eq 8 _ r (by simpa using h) (by omega)]
  rfl
/-- The bytes of a number, the lowest first. -/
def patch (n Q : Nat) : List UInt8 := (List.range n).map fun m => UInt8.ofNat (Q / 256 ^ m % 256)
theorem pow256 (n : Nat) : 256 ^ n = 2 ^ (8 * n) := by rw [Nat.pow_mul]
theorem fold_patch : ∀ (n Q : Nat) (r : BitVec 32), (patch n Q).foldl stepB r = runB (8 * n) Q r
  | 0, _, _ => rfl
  | n + 1, Q, r => by
    have e : patch (n + 1) Q = patch n Q ++ [UInt8.ofNat (Q / 256 ^ n % 256)] := by simp [patch, List.range_succ]
    rw [e, List.foldl_append, fold_patch n, List.foldl_cons, List.foldl_nil, stepB_run, UInt8.toNat_ofNat', show 8 * (n + 1) = 8 * n + 8 by omega, runB_add, pow256]
    rw [show Q / 2 ^ (8 * n) % 256 % 2 ^ 8 = Q / 2 ^ (8 * n) % 2 ^ 8 by omega, runB_low]
theorem runB_zero : ∀ (f P : Nat), runB f (P * 2 ^ f) 0#32 = 0#32
  | 0, _ => rfl
  | f + 1, P => by
    have e1 : P * 2 ^ (f + 1) % 2 = 0 := by rw [Nat.pow_succ, ← Nat.mul_assoc]; omega
    have e2 : P * 2 ^ (f + 1) / 2 = P * 2 ^ f := by rw [Nat.pow_succ, ← Nat.mul_assoc]; omega
    rw [runB, e1, e2, show S1 (0#32 ^^^ BitVec.ofNat 32 0) = 0#32 by decide, runB_zero f]
theorem S1_inj {r : BitVec 32} (h : S1 r = 0#32) : r = 0#32 := by
  have h31 := congrArg (fun x => BitVec.getLsbD x 31) h
  simp only [S1_eq, BitVec.getLsbD_xor, BitVec.getLsbD_ushiftRight] at h31
  rw [BitVec.getLsbD_of_ge r (1 + 31) (by omega)] at h31
  have h0 : r.getLsbD 0 = false := by
    cases h0 : r.getLsbD 0 with
    | false => rfl
    | true => rw [h0] at h31; revert h31; decide
  rw [S1_even r h0] at h
  apply BitVec.eq_of_getLsbD_eq
  intro i hi
  cases i with
  | zero => rw [h0]; simp
  | succ i =>
    have := congrArg (fun x => BitVec.getLsbD x i) h
    simp only [BitVec.getLsbD_ushiftRight] at this
    rw [Nat.add_comm] at this
    rw [this]; simp
theorem S1n_inj : ∀ (m : Nat) {r : BitVec 32}, S1n m r = 0#32 → r = 0#32
  | 0, _, h => h
  | m + 1, _, h => S1_inj (S1n_inj m h)
/-- The checksum with the bits of P changed, from bit f on. -/
theorem burst (b : List UInt8) (n f j P : Nat) (hn : b.length = n) (hj : f + j = 8 * n) (hP : P < 2 ^ j) (h32 : P < 4294967296) :
    crcR (List.zipWith (· ^^^ ·) b (patch n (P * 2 ^ f))) = crcR b ↔ P = 0 := by
  have h := fold_xor b (patch n (P * 2 ^ f)) (BitVec.allOnes 32) 0#32 (by simp [patch, hn])
  rw [BitVec.xor_zero, fold_patch, ← hj, runB_add, runB_zero, Nat.mul_div_cancel _ (Nat.two_pow_pos f), runB_eq j P _ hP h32, BitVec.zero_xor] at h
  have h2 : crcR (List.zipWith (· ^^^ ·) b (patch n (P * 2 ^ f))) = crcR b ^^^ S1n j (BitVec.ofNat 32 P) := h
  rw [h2]
  constructor
  · intro he
    have h3 : S1n j (BitVec.ofNat 32 P) = 0#32 := by
      have := congrArg (fun x => crcR b ^^^ x) he
      simp only [← BitVec.xor_assoc, BitVec.xor_self, BitVec.zero_xor] at this
      exact this
    have h4 := congrArg BitVec.toNat (S1n_inj j h3)
    rw [BitVec.toNat_ofNat, Nat.mod_eq_of_lt h32] at h4
    simpa using h4
  · rintro rfl
    have : S1n j 0#32 = 0#32 := by
      clear h2 h hP hj
      induction j with
      | zero => rfl
      | succ j ih => rw [S1n, show S1 0#32 = 0#32 by decide, ih]
    rw [show BitVec.ofNat 32 0 = 0#32 from rfl, this, BitVec.xor_zero]
end Go.Proofs.YtcmeplgkillbdaaDoor
