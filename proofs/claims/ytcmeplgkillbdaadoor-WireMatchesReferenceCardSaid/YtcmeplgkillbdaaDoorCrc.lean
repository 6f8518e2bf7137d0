/- Plain mathematics of the checksum: registers of 32 bits. No program is named here. -/
import Derived.Test.YtcmeplgkillbdaaDoorMath
namespace Go.Proofs.YtcmeplgkillbdaaDoor

/-- One bit is shifted out. -/
def S1 (r : BitVec 32) : BitVec 32 := (r >>> 1) ^^^ (if r.getLsbD 0 then 0x82F63B78#32 else 0#32)
def S4 (r : BitVec 32) : BitVec 32 := S1 (S1 (S1 (S1 r)))
def tabL : List Nat := [0, 274646895, 549293790, 820201905, 1098587580, 1361435347, 1640403810, 1905808397, 2197175160, 2460548119, 2722870694, 2987750089, 3280807620, 3553878443, 3811616794, 4084100981]
def tabN (i : Nat) : Nat := tabL.getD i 0
def stepB (r : BitVec 32) (b : UInt8) : BitVec 32 := S4 (S4 (r ^^^ BitVec.ofNat 32 b.toNat))
def crcR (l : List UInt8) : BitVec 32 := l.foldl stepB (BitVec.allOnes 32)
def crc (l : List UInt8) : Int := ((~~~ crcR l).toNat : Int)

def P1 (c : Bool) : BitVec 32 := if c then 0x82F63B78#32 else 0#32
theorem P1_xor (a b : Bool) : P1 (a ^^ b) = P1 a ^^^ P1 b := by cases a <;> cases b <;> decide
theorem S1_eq (r : BitVec 32) : S1 r = (r >>> 1) ^^^ P1 (r.getLsbD 0) := rfl
theorem S1_xor (a b : BitVec 32) : S1 (a ^^^ b) = S1 a ^^^ S1 b := by
  rw [S1_eq, S1_eq, S1_eq, BitVec.getLsbD_xor, P1_xor, BitVec.ushiftRight_xor_distrib]
  ac_rfl
theorem S4_xor (a b : BitVec 32) : S4 (a ^^^ b) = S4 a ^^^ S4 b := by simp only [S4, S1_xor]
theorem S1_even (a : BitVec 32) (h : a.getLsbD 0 = false) : S1 a = a >>> 1 := by
  unfold S1; rw [h]; simp
theorem S4_hi (a : BitVec 32) : S4 ((a >>> 4) <<< 4) = a >>> 4 := by
  have e : ∀ k, k ≤ 3 → (((a >>> 4) <<< 4) >>> k).getLsbD 0 = false := fun k hk => by
    simp; omega
  have h1 := S1_even ((a >>> 4) <<< 4) (by have := e 0 (by omega); rwa [BitVec.ushiftRight_zero] at this)
  have h2 := S1_even (((a >>> 4) <<< 4) >>> 1) (e 1 (by omega))
  have h3 := S1_even (((a >>> 4) <<< 4) >>> 2) (e 2 (by omega))
  have h4 := S1_even (((a >>> 4) <<< 4) >>> 3) (e 3 (by omega))
  have s2 : ((a >>> 4) <<< 4) >>> 1 >>> 1 = ((a >>> 4) <<< 4) >>> 2 := by rw [← BitVec.shiftRight_add]
  have s3 : ((a >>> 4) <<< 4) >>> 2 >>> 1 = ((a >>> 4) <<< 4) >>> 3 := by rw [← BitVec.shiftRight_add]
  have s4 : ((a >>> 4) <<< 4) >>> 3 >>> 1 = ((a >>> 4) <<< 4) >>> 4 := by rw [← BitVec.shiftRight_add]
  rw [S4, h1, h2, s2, h3, s3, h4, s4]
  apply BitVec.eq_of_getLsbD_eq
  intro i hi
  by_cases h : 4 + i < 32
  · simp; omega
  · simp only [BitVec.getLsbD_ushiftRight]
    rw [BitVec.getLsbD_of_ge _ _ (by omega), BitVec.getLsbD_of_ge a _ (by omega)]
theorem S4_lo : ∀ i, i < 16 → S4 (BitVec.ofNat 32 i) = BitVec.ofNat 32 (tabN i) := by decide
theorem split4 (a : BitVec 32) : a = ((a >>> 4) <<< 4) ^^^ BitVec.ofNat 32 (a.toNat % 16) := by
  apply BitVec.eq_of_getLsbD_eq
  intro i hi
  have e : (BitVec.ofNat 32 (a.toNat % 16)).getLsbD i = (decide (i < 4) && a.getLsbD i) := by
    rw [BitVec.getLsbD_ofNat, show (16 : Nat) = 2 ^ 4 by decide, Nat.testBit_mod_two_pow]
    simp [hi, BitVec.getLsbD]
  rw [BitVec.getLsbD_xor, e]
  by_cases h : i < 4
  · simp [h]
  · simp [h, hi, show 4 + (i - 4) = i by omega]
/-- The table of 16 numbers does four bits at once. -/
theorem S4_tab (a : BitVec 32) : S4 a = (a >>> 4) ^^^ BitVec.ofNat 32 (tabN (a.toNat % 16)) := by
  have h : S4 a = S4 (((a >>> 4) <<< 4) ^^^ BitVec.ofNat 32 (a.toNat % 16)) := congrArg S4 (split4 a)
  rw [h, S4_xor, S4_hi, S4_lo _ (Nat.mod_lt _ (by omega))]
theorem tabN_lt : ∀ i, i < 16 → tabN i < 4294967296 := by decide
theorem S4_nat (a : Nat) (h : a < 4294967296) : (S4 (BitVec.ofNat 32 a)).toNat = a / 16 ^^^ tabN (a % 16) := by
  have ht := tabN_lt (a % 16) (Nat.mod_lt _ (by omega))
  rw [S4_tab, BitVec.toNat_xor, BitVec.toNat_ushiftRight, BitVec.toNat_ofNat, BitVec.toNat_ofNat, Nat.mod_eq_of_lt h, Nat.mod_eq_of_lt ht, Nat.shiftRight_eq_div_pow]
theorem stepB_nat (r : BitVec 32) (b : UInt8) : (stepB r b).toNat = ((r.toNat ^^^ b.toNat) / 16 ^^^ tabN ((r.toNat ^^^ b.toNat) % 16)) / 16 ^^^ tabN (((r.toNat ^^^ b.toNat) / 16 ^^^ tabN ((r.toNat ^^^ b.toNat) % 16)) % 16) := by
  have hb : b.toNat < 256 := b.toNat_lt
  have hx : r.toNat ^^^ b.toNat < 4294967296 := Nat.xor_lt_two_pow (n := 32) r.isLt (by omega)
  have hy : (r.toNat ^^^ b.toNat) / 16 ^^^ tabN ((r.toNat ^^^ b.toNat) % 16) < 4294967296 := Nat.xor_lt_two_pow (n := 32) (by omega) (tabN_lt _ (by omega))
  have e1 : r ^^^ BitVec.ofNat 32 b.toNat = BitVec.ofNat 32 (r.toNat ^^^ b.toNat) := by
    apply BitVec.eq_of_toNat_eq
    rw [BitVec.toNat_xor, BitVec.toNat_ofNat, BitVec.toNat_ofNat, Nat.mod_eq_of_lt hx, Nat.mod_eq_of_lt (by omega)]
  have e2 : S4 (BitVec.ofNat 32 (r.toNat ^^^ b.toNat)) = BitVec.ofNat 32 ((r.toNat ^^^ b.toNat) / 16 ^^^ tabN ((r.toNat ^^^ b.toNat) % 16)) := by
    apply BitVec.eq_of_toNat_eq
    rw [S4_nat _ hx, BitVec.toNat_ofNat, Nat.mod_eq_of_lt hy]
  rw [stepB, e1, e2, S4_nat _ hy]
theorem crcR_snoc (l : List UInt8) (b : UInt8) : crcR (l ++ [b]) = stepB (crcR l) b := by
  unfold crcR; rw [List.foldl_append, List.foldl_cons, List.foldl_nil]
theorem crc_nat (l : List UInt8) : crc l = 4294967295 - ((crcR l).toNat : Int) := by
  unfold crc
  rw [BitVec.toNat_not]
  have := (crcR l).isLt
  omega
/-- The checksum is linear but for its constants. -/
theorem stepB_xor (r s : BitVec 32) (a b : UInt8) : stepB (r ^^^ s) (a ^^^ b) = stepB r a ^^^ stepB s b := by
  have e : BitVec.ofNat 32 (a ^^^ b).toNat = BitVec.ofNat 32 a.toNat ^^^ BitVec.ofNat 32 b.toNat := by
    apply BitVec.eq_of_toNat_eq
    have ha := a.toNat_lt
    have hb := b.toNat_lt
    have hx : a.toNat ^^^ b.toNat < 2 ^ 8 := Nat.xor_lt_two_pow (by omega) (by omega)
    rw [UInt8.toNat_xor, BitVec.toNat_xor, BitVec.toNat_ofNat, BitVec.toNat_ofNat, BitVec.toNat_ofNat, Nat.mod_eq_of_lt (by omega), Nat.mod_eq_of_lt (by omega), Nat.mod_eq_of_lt (by omega)]
  have e2 : r ^^^ s ^^^ (BitVec.ofNat 32 a.toNat ^^^ BitVec.ofNat 32 b.toNat) = (r ^^^ BitVec.ofNat 32 a.toNat) ^^^ (s ^^^ BitVec.ofNat 32 b.toNat) := by ac_rfl
  unfold stepB
  rw [e, e2, S4_xor, S4_xor]
theorem fold_xor : ∀ (a b : List UInt8) (r s : BitVec 32), a.length = b.length → (List.zipWith (· ^^^ ·) a b).foldl stepB (r ^^^ s) = a.foldl stepB r ^^^ b.foldl stepB s
  | [], [], _, _, _ => rfl
  | [], _ :: _, _, _, h => by simp at h
  | _ :: _, [], _, _, h => by simp at h
  | a :: as, b :: bs, r, s, h => by
    simp only [List.zipWith_cons_cons, List.foldl_cons]
    rw [stepB_xor]
    exact fold_xor as bs _ _ (by simpa using h)
theorem crc_xor3 (a b c : List UInt8) (h1 : a.length = b.length) (h2 : a.length = c.length) :
    (~~~ crcR (List.zipWith (· ^^^ ·) (List.zipWith (· ^^^ ·) a b) c)).toNat = ((~~~ crcR a).toNat ^^^ (~~~ crcR b).toNat) ^^^ (~~~ crcR c).toNat := by
  have h := fold_xor (List.zipWith (· ^^^ ·) a b) c (BitVec.allOnes 32 ^^^ BitVec.allOnes 32) (BitVec.allOnes 32) (by simp; omega)
  rw [fold_xor a b _ _ h1] at h
  have e : (BitVec.allOnes 32 ^^^ BitVec.allOnes 32 ^^^ BitVec.allOnes 32) = BitVec.allOnes 32 := by decide
  rw [e] at h
  have e2 : crcR (List.zipWith (· ^^^ ·) (List.zipWith (· ^^^ ·) a b) c) = crcR a ^^^ crcR b ^^^ crcR c := h
  have e3 : ~~~ (crcR a ^^^ crcR b ^^^ crcR c) = ~~~ crcR a ^^^ ~~~ crcR b ^^^ ~~~ crcR c := by
    rw [← BitVec.allOnes_xor, ← BitVec.allOnes_xor, ← BitVec.allOnes_xor, ← BitVec.allOnes_xor]
    have : BitVec.allOnes 32 ^^^ (crcR a ^^^ crcR b ^^^ crcR c) = (BitVec.allOnes 32 ^^^ BitVec.allOnes 32 ^^^ BitVec.allOnes 32) ^^^ (crcR a ^^^ crcR b ^^^ crcR c) := by rw [e]
    rw [this]
    ac_rfl
  rw [e2, e3, BitVec.toNat_xor, BitVec.toNat_xor]
end Go.Proofs.YtcmeplgkillbdaaDoor
