/- Plain mathematics of the wire encoding: no program is named here. -/
import Derived.KernelRfl
namespace Go.Proofs.YtcmeplgkillbdaaDoor

def maxInt : Int := 4611686018427387903
/-- The groups of 7 bits of z, at most f of them. -/
def lebF : Nat → Nat → List UInt8
  | 0, _ => []
  | f + 1, z => if z < 128 then [UInt8.ofNat z] else UInt8.ofNat (z % 128 + 128) :: lebF f (z / 128)
def leb (z : Nat) : List UInt8 := lebF 10 z
def zig (n : Int) : Nat := if n < 0 then 2 * n.natAbs - 1 else 2 * n.natAbs
def enc (n : Int) : List UInt8 := leb (zig n)
def unz (z : Nat) : Int := if z % 2 = 1 then -((z / 2 : Nat) : Int) - 1 else ((z / 2 : Nat) : Int)
/-- What is decoded from the groups at the head of a list, i groups having come before, with the value z. -/
def ung : Nat → Nat → Nat → List UInt8 → Option (Nat × Nat)
  | 0, _, _, _ => none
  | _ + 1, _, _, [] => none
  | f + 1, i, z, b :: l =>
    if b.toNat < 128 then (if b.toNat = 0 ∧ 0 < i then none else some (z + b.toNat % 128 * 2 ^ (7 * i), i + 1))
    else ung f (i + 1) (z + b.toNat % 128 * 2 ^ (7 * i)) l

def putIntS (n : Int) : List UInt8 × Int := if n < -maxInt ∨ maxInt < n then ([], 10) else (enc n, 0)
def putStringS (l : List UInt8) : List UInt8 × Int := if 65536 < l.length then ([], 10) else (enc l.length ++ l, 0)
def intS (l : List UInt8) (k : Int) : Int × Int × Int :=
  if k < 0 ∨ (l.length : Int) < k then (0, 0, 2)
  else match ung 9 0 0 (l.drop k.toNat) with
    | none => (0, 0, 10)
    | some (z, j) => if 9223372036854775806 < z then (0, 0, 10) else (unz z, k + j, 0)
def stringS (l : List UInt8) (k : Int) : List UInt8 × Int × Int :=
  match intS l k with
  | (n, next, e) =>
    if e = 0 then
      if n < 0 ∨ 65536 < n ∨ (l.length : Int) - next < n then ([], 0, 10) else ((l.drop next.toNat).take n.toNat, next + n, 0)
    else ([], 0, e)

/-! ### The groups -/
theorem lebF_len : ∀ (f z : Nat), 0 < f → 1 ≤ (lebF f z).length ∧ (lebF f z).length ≤ f
  | 0, _, h => absurd h (by omega)
  | f + 1, z, _ => by
    unfold lebF
    split
    · simp
    · by_cases hf : f = 0
      · subst hf; simp [lebF]
      · have := lebF_len f (z / 128) (by omega)
        simp; omega
theorem toNat_lo {z : Nat} (h : z < 128) : (UInt8.ofNat z).toNat = z := by
  rw [UInt8.toNat_ofNat']; omega
theorem toNat_hi (z : Nat) : (UInt8.ofNat (z % 128 + 128)).toNat = z % 128 + 128 := by
  rw [UInt8.toNat_ofNat']; omega

theorem pow_step (i a : Nat) : a * 2 ^ (7 * (i + 1)) = a * 128 * 2 ^ (7 * i) := by
  rw [Nat.mul_add, Nat.pow_add]
  have : (2 : Nat) ^ (7 * 1) = 128 := by decide
  rw [this, Nat.mul_comm (2 ^ (7 * i)) 128, Nat.mul_assoc]

/-- What was encoded is decoded, whatever follows. -/
theorem ung_leb : ∀ (f i z z0 : Nat) (r : List UInt8), 0 < f → z < 128 ^ f → (z = 0 → i = 0) → ung f i z0 (lebF f z ++ r) = some (z0 + z * 2 ^ (7 * i), i + (lebF f z).length)
  | 0, _, _, _, _, hf, _, _ => absurd hf (by omega)
  | f + 1, i, z, z0, r, _, h, h0 => by
    unfold lebF
    by_cases hz : z < 128
    · rw [if_pos hz]
      simp only [List.cons_append, List.nil_append, ung, toNat_lo hz, if_pos hz, List.length_cons, List.length_nil]
      rw [if_neg (by omega), Nat.mod_eq_of_lt hz]
    · rw [if_neg hz]
      simp only [List.cons_append, ung, toNat_hi, List.length_cons]
      rw [if_neg (by omega)]
      have e : (z % 128 + 128) % 128 = z % 128 := by omega
      have hf : 0 < f := by
        rcases Nat.eq_zero_or_pos f with h1 | h1
        · subst h1; simp at h; omega
        · exact h1
      rw [e, ung_leb f (i + 1) (z / 128) _ r hf (by rw [Nat.pow_succ] at h; omega) (by omega)]
      congr 1
      refine Prod.ext ?_ (by simp; omega)
      show z0 + z % 128 * 2 ^ (7 * i) + z / 128 * 2 ^ (7 * (i + 1)) = z0 + z * 2 ^ (7 * i)
      rw [pow_step, Nat.add_assoc, ← Nat.add_mul]
      congr 2
      omega

theorem u8_of_toNat (b : UInt8) (z : Nat) (h : b.toNat = z) : b = UInt8.ofNat z := by subst h; simp

/-- What is decoded was encoded. -/
theorem ung_some : ∀ (f i z0 : Nat) (l : List UInt8) (z j : Nat), ung f i z0 l = some (z, j) →
    ∃ v k, j = i + k ∧ 1 ≤ k ∧ k ≤ l.length ∧ l.take k = lebF f v ∧ (lebF f v).length = k ∧ z = z0 + v * 2 ^ (7 * i) ∧ v < 128 ^ f ∧ (v = 0 → i = 0)
  | 0, _, _, _, _, _, h => by simp [ung] at h
  | _ + 1, _, _, [], _, _, h => by simp [ung] at h
  | f + 1, i, z0, b :: l, z, j, h => by
    unfold ung at h
    by_cases hb : b.toNat < 128
    · rw [if_pos hb] at h
      by_cases hz : b.toNat = 0 ∧ 0 < i
      · rw [if_pos hz] at h; cases h
      · rw [if_neg hz] at h
        simp only [Option.some.injEq, Prod.mk.injEq] at h
        obtain ⟨h1, h2⟩ := h
        rw [Nat.mod_eq_of_lt hb] at h1
        have e : lebF (f + 1) b.toNat = [b] := by
          unfold lebF
          rw [if_pos hb, ← u8_of_toNat b _ rfl]
        refine ⟨b.toNat, 1, by omega, by omega, by simp, by rw [e]; simp, by rw [e]; simp, h1.symm, ?_, by omega⟩
        have : 1 ≤ 128 ^ f := Nat.pow_pos (by omega)
        rw [Nat.pow_succ]; omega
    · rw [if_neg hb] at h
      obtain ⟨v, k, h1, h2, h3, h4, h5, h6, h7, h8⟩ := ung_some f (i + 1) _ l z j h
      have hlt : b.toNat < 256 := b.toNat_lt
      have e : lebF (f + 1) (b.toNat % 128 + v * 128) = b :: lebF f v := by
        have hv : v ≠ 0 := fun h0 => by have := h8 h0; omega
        rw [lebF, if_neg (by omega)]
        have e1 : (b.toNat % 128 + v * 128) % 128 + 128 = b.toNat := by omega
        have e2 : (b.toNat % 128 + v * 128) / 128 = v := by omega
        rw [e1, e2, ← u8_of_toNat b _ rfl]
      refine ⟨b.toNat % 128 + v * 128, k + 1, by omega, by omega, by simp; omega, by rw [e]; simp [h4], by rw [e]; simp [h5], ?_, by rw [Nat.pow_succ]; omega, by omega⟩
      rw [h6, pow_step, Nat.add_assoc, ← Nat.add_mul]

theorem lebF_more : ∀ (f z : Nat), 0 < f → z < 128 ^ f → lebF (f + 1) z = lebF f z
  | 0, _, h, _ => absurd h (by omega)
  | f + 1, z, _, h => by
    show (if z < 128 then [UInt8.ofNat z] else UInt8.ofNat (z % 128 + 128) :: lebF (f + 1) (z / 128)) = (if z < 128 then [UInt8.ofNat z] else UInt8.ofNat (z % 128 + 128) :: lebF f (z / 128))
    by_cases hz : z < 128
    · rw [if_pos hz, if_pos hz]
    · rw [if_neg hz, if_neg hz]
      have hf : 0 < f := by
        rcases Nat.eq_zero_or_pos f with h1 | h1
        · subst h1; simp at h; omega
        · exact h1
      rw [lebF_more f (z / 128) hf (by rw [Nat.pow_succ] at h; omega)]

theorem pow9 : 128 ^ 9 = 9223372036854775808 := by decide
theorem leb9 {z : Nat} (h : z < 9223372036854775808) : leb z = lebF 9 z := lebF_more 9 z (by omega) (by rw [pow9]; exact h)
theorem zig_lt {n : Int} (h1 : -maxInt ≤ n) (h2 : n ≤ maxInt) : zig n ≤ 9223372036854775806 := by unfold zig maxInt at *; split <;> omega
theorem unz_zig (n : Int) : unz (zig n) = n := by
  unfold unz zig
  by_cases h : n < 0
  · rw [if_pos h, if_pos (by omega)]; omega
  · rw [if_neg h, if_neg (by omega)]; omega
theorem zig_unz (z : Nat) : zig (unz z) = z := by
  unfold unz zig
  by_cases h : z % 2 = 1
  · rw [if_pos h, if_pos (by omega)]; omega
  · rw [if_neg h, if_neg (by omega)]; omega
theorem unz_in {z : Nat} (h : z ≤ 9223372036854775806) : -maxInt ≤ unz z ∧ unz z ≤ maxInt := by
  unfold unz maxInt; split <;> omega
theorem enc_len (n : Int) (h1 : -maxInt ≤ n) (h2 : n ≤ maxInt) : 1 ≤ (enc n).length ∧ (enc n).length ≤ 9 := by
  have := zig_lt h1 h2
  unfold enc
  rw [leb9 (by omega)]
  exact lebF_len 9 _ (by omega)

/-- Int behind PutInt, wherever it stands. -/
theorem intS_enc (n : Int) (h1 : -maxInt ≤ n) (h2 : n ≤ maxInt) (p q : List UInt8) : intS (p ++ enc n ++ q) p.length = (n, (p.length : Int) + (enc n).length, 0) := by
  have hz := zig_lt h1 h2
  unfold intS
  rw [if_neg (by simp only [List.length_append]; omega)]
  have e : (p ++ enc n ++ q).drop ((p.length : Int)).toNat = lebF 9 (zig n) ++ q := by
    rw [Int.toNat_natCast, List.append_assoc, List.drop_left, enc, leb9 (by omega)]
  rw [e, ung_leb 9 0 (zig n) 0 q (by omega) (by rw [pow9]; omega) (fun _ => rfl)]
  simp only [Nat.mul_zero, Nat.pow_zero, Nat.mul_one, Nat.zero_add]
  rw [if_neg (by omega), unz_zig, ← leb9 (by omega)]
  rfl

/-- What Int accepts. -/
theorem intS_ok {l : List UInt8} {k n next : Int} (h : intS l k = (n, next, 0)) :
    0 ≤ k ∧ -maxInt ≤ n ∧ n ≤ maxInt ∧ next = k + (enc n).length ∧ next ≤ l.length ∧ (l.drop k.toNat).take (enc n).length = enc n := by
  unfold intS at h
  by_cases hk : k < 0 ∨ (l.length : Int) < k
  · rw [if_pos hk] at h; simp at h
  · rw [if_neg hk] at h
    cases hu : ung 9 0 0 (l.drop k.toNat) with
    | none => rw [hu] at h; simp at h
    | some x =>
      obtain ⟨z, j⟩ := x
      rw [hu] at h
      simp only at h
      by_cases hz : 9223372036854775806 < z
      · rw [if_pos hz] at h; simp at h
      · rw [if_neg hz] at h
        simp only [Prod.mk.injEq, and_true] at h
        obtain ⟨hn, hx⟩ := h
        obtain ⟨v, m, a1, a2, a3, a4, a5, a6, a7, _⟩ := ung_some 9 0 0 _ z j hu
        simp only [Nat.mul_zero, Nat.pow_zero, Nat.mul_one, Nat.zero_add] at a6 a1
        subst a6 a1
        have hin := unz_in (z := z) (by omega)
        have e : enc n = lebF 9 z := by rw [← hn, enc, zig_unz, leb9 (by omega)]
        rw [List.length_drop] at a3
        refine ⟨by omega, by omega, by omega, ?_, by omega, ?_⟩
        · rw [e, a5]; omega
        · rw [e, a5]; exact a4
theorem intS_err (l : List UInt8) (k : Int) : (intS l k).2.2 = 0 ∨ ((intS l k).1 = 0 ∧ (intS l k).2.1 = 0 ∧ ((intS l k).2.2 = 2 ∧ (k < 0 ∨ (l.length : Int) < k) ∨ (intS l k).2.2 = 10)) := by
  unfold intS
  by_cases hk : k < 0 ∨ (l.length : Int) < k
  · rw [if_pos hk]; right; exact ⟨rfl, rfl, .inl ⟨rfl, hk⟩⟩
  · rw [if_neg hk]
    cases ung 9 0 0 (l.drop k.toNat) with
    | none => right; exact ⟨rfl, rfl, .inr rfl⟩
    | some x =>
      obtain ⟨z, j⟩ := x
      by_cases hz : 9223372036854775806 < z
      · right; simp [hz]
      · left; simp [hz]

end Go.Proofs.YtcmeplgkillbdaaDoor
