/- The exported functions at numbers that are known: for the laws. -/
import Derived.Test.YtgpncnnlhhmjaaaGreatDoorExq
namespace Go.Proofs.YtgpncnnlhhmjaaaGreatDoor
open Go.RowKit

theorem both_dec {x y : Int} (fx : fits x = true) (fy : fits y = true) : both (dec x) (dec y) = true := by rw [both, valid_dec, valid_dec, fx, fy]; rfl
theorem opT_dec (f : Int → Int → Int) {x y : Int} (fx : fits x = true) (fy : fits y = true) : opT f (dec x) (dec y) = outT (f x y) := by rw [opT, both_dec fx fy, num_dec, num_dec]; rfl
theorem opE_dec (f : Int → Int → Int) {x y : Int} (fx : fits x = true) (fy : fits y = true) : opE f (dec x) (dec y) = outE (f x y) := by rw [opE, both_dec fx fy, num_dec, num_dec]; rfl
theorem outT_fits {z : Int} (h : fits z = true) : outT z = dec z := by rw [outT, h]; rfl
theorem outE_fits {z : Int} (h : fits z = true) : outE z = 0 := by rw [outE, h]; rfl
theorem outT_not {z : Int} (h : fits z = false) : outT z = ByteArray.empty := by rw [outT, h]; rfl
theorem outE_not {z : Int} (h : fits z = false) : outE z = 30 := by rw [outE, h]; rfl
section
variable {a b c d : ByteArray} {x y z q r : Int}
theorem add_at (ha : a = dec x) (hb : b = dec y) (hc : c = dec z) (hz : z = x + y) (fx : fits x = true) (fy : fits y = true) (fz : fits z = true) (w : World) (ht : Tab w) :
    Calls Tryz.prog 64 #[.string a, .string b] w fun e w' => e = .returned (.tuple #[.string c, .int .i64 0]) ∧ Below w.heap.size w w' := by
  subst ha hb hc
  have h := add_any (dec x) (dec y) w ht
  rw [opT_dec _ fx fy, opE_dec _ fx fy, ← hz, outT_fits fz, outE_fits fz] at h
  exact h
theorem sub_at (ha : a = dec x) (hb : b = dec y) (hc : c = dec z) (hz : z = x - y) (fx : fits x = true) (fy : fits y = true) (fz : fits z = true) (w : World) (ht : Tab w) :
    Calls Tryz.prog 67 #[.string a, .string b] w fun e w' => e = .returned (.tuple #[.string c, .int .i64 0]) ∧ Below w.heap.size w w' := by
  subst ha hb hc
  have h := sub_any (dec x) (dec y) w ht
  rw [opT_dec _ fx fy, opE_dec _ fx fy, ← hz, outT_fits fz, outE_fits fz] at h
  exact h
theorem mul_at (ha : a = dec x) (hb : b = dec y) (hc : c = dec z) (hz : z = x * y) (fx : fits x = true) (fy : fits y = true) (fz : fits z = true) (w : World) (ht : Tab w) :
    Calls Tryz.prog 97 #[.string a, .string b] w fun e w' => e = .returned (.tuple #[.string c, .int .i64 0]) ∧ Below w.heap.size w w' := by
  subst ha hb hc
  have h := mul_any (dec x) (dec y) w ht
  rw [opT_dec _ fx fy, opE_dec _ fx fy, ← hz, outT_fits fz, outE_fits fz] at h
  exact h
theorem gcd_at (ha : a = dec x) (hb : b = dec y) (hc : c = dec z) (hz : z = (Int.gcd x y : Int)) (fx : fits x = true) (fy : fits y = true) (fz : fits z = true) (w : World) (ht : Tab w) :
    Calls Tryz.prog 60 #[.string a, .string b] w fun e w' => e = .returned (.tuple #[.string c, .int .i64 0]) ∧ Below w.heap.size w w' := by
  subst ha hb hc
  have h := gcd_any (dec x) (dec y) w ht
  rw [opT_dec _ fx fy, opE_dec _ fx fy, ← hz, outT_fits fz, outE_fits fz] at h
  exact h
theorem div_at (ha : a = dec x) (hb : b = dec y) (hc : c = dec q) (hd : d = dec r) (hq : q = x / y) (hr : r = x % y) (hy : y ≠ 0) (fx : fits x = true) (fy : fits y = true) (w : World) (ht : Tab w) :
    Calls Tryz.prog 50 #[.string a, .string b] w fun e w' => e = .returned (.tuple #[.string c, .string d, .int .i64 0]) ∧ Below w.heap.size w w' := by
  subst ha hb hc hd
  have h := Div_any (dec x) (dec y) w ht
  have e0 : divOk (dec x) (dec y) = true := by rw [divOk, both_dec fx fy, num_dec, decide_eq_true (by simpa using hy)]; rfl
  rw [divQ, divR, divE, e0, if_pos rfl, if_pos rfl, if_pos rfl, num_dec, num_dec, ← hq, ← hr] at h
  exact h
theorem div_zero (ha : a = dec x) (hb : b = dec 0) (w : World) (ht : Tab w) :
    Calls Tryz.prog 50 #[.string a, .string b] w fun e w' => e = .returned (.tuple #[.string ByteArray.empty, .string ByteArray.empty, .int .i64 30]) ∧ Below w.heap.size w w' := by
  subst ha hb
  have h := Div_any (dec x) (dec 0) w ht
  have e0 : divOk (dec x) (dec 0) = false := by rw [divOk, num_dec]; simp
  rw [divQ, divR, divE, e0] at h
  exact h
theorem cmp_at (ha : a = dec x) (hb : b = dec y) (hz : z = cmpI x y) (fx : fits x = true) (fy : fits y = true) (w : World) :
    Calls Tryz.prog 51 #[.string a, .string b] w fun e w' => e = .returned (.int .i64 z) ∧ Below w.heap.size w w' := by
  subst ha hb hz
  have h := Compare_any (dec x) (dec y) w
  rw [cmpS, both_dec fx fy, if_pos rfl, num_dec, num_dec] at h
  exact h
theorem valid_at (ha : a = dec x) (fx : fits x = true) (w : World) :
    Calls Tryz.prog 116 #[.string a] w fun e w' => e = .returned (.bool true) ∧ Below w.heap.size w w' := by
  subst ha
  have h := valid_any (dec x) w
  rw [valid_dec, fx] at h
  exact h
theorem invalid_at (ha : validB a.data.toList = false) (w : World) :
    Calls Tryz.prog 116 #[.string a] w fun e w' => e = .returned (.bool false) ∧ Below w.heap.size w w' := by
  have h := valid_any a w
  rw [ha] at h
  exact h
theorem add_bad (ha : validB a.data.toList = false) (w : World) (ht : Tab w) :
    Calls Tryz.prog 64 #[.string a, .string b] w fun e w' => e = .returned (.tuple #[.string ByteArray.empty, .int .i64 30]) ∧ Below w.heap.size w w' := by
  have h := add_any a b w ht
  have e0 : both a b = false := by rw [both, ha]; rfl
  rw [opT, opE, e0] at h
  exact h
theorem add_big (ha : a = dec x) (hb : b = dec y) (hz : fits (x + y) = false) (fx : fits x = true) (fy : fits y = true) (w : World) (ht : Tab w) :
    Calls Tryz.prog 64 #[.string a, .string b] w fun e w' => e = .returned (.tuple #[.string ByteArray.empty, .int .i64 30]) ∧ Below w.heap.size w w' := by
  subst ha hb
  have h := add_any (dec x) (dec y) w ht
  rw [opT_dec _ fx fy, opE_dec _ fx fy, outT_not hz, outE_not hz] at h
  exact h
theorem sub_big (ha : a = dec x) (hb : b = dec y) (hz : fits (x - y) = false) (fx : fits x = true) (fy : fits y = true) (w : World) (ht : Tab w) :
    Calls Tryz.prog 67 #[.string a, .string b] w fun e w' => e = .returned (.tuple #[.string ByteArray.empty, .int .i64 30]) ∧ Below w.heap.size w w' := by
  subst ha hb
  have h := sub_any (dec x) (dec y) w ht
  rw [opT_dec _ fx fy, opE_dec _ fx fy, outT_not hz, outE_not hz] at h
  exact h
theorem mul_big (ha : a = dec x) (hb : b = dec y) (hz : fits (x * y) = false) (fx : fits x = true) (fy : fits y = true) (w : World) (ht : Tab w) :
    Calls Tryz.prog 97 #[.string a, .string b] w fun e w' => e = .returned (.tuple #[.string ByteArray.empty, .int .i64 30]) ∧ Below w.heap.size w w' := by
  subst ha hb
  have h := mul_any (dec x) (dec y) w ht
  rw [opT_dec _ fx fy, opE_dec _ fx fy, outT_not hz, outE_not hz] at h
  exact h
end
theorem lim_big : 10 ^ 150 ≤ lim := Nat.pow_le_pow_right (by decide) (by decide)
theorem fits_small {z : Int} (h : z.natAbs < 10 ^ 150) : fits z = true := by
  simp only [fits, decide_eq_true_eq]
  exact Nat.lt_of_lt_of_le h lim_big
theorem fits_tiny {z : Int} (h : z.natAbs < 1000000000000000000000000000000) : fits z = true := fits_small (Nat.lt_of_lt_of_le h (Nat.le_trans (by decide) (Nat.pow_le_pow_right (n := 10) (by decide) (show 30 ≤ 150 by decide))))

theorem l999 : (⟨#[57, 57, 57]⟩ : ByteArray) = dec 999 := by rw [show (999 : Int) = ((999 : Nat) : Int) from rfl, dec_nat]; simp [Lib.decDigits, str]
theorem l1 : (⟨#[49]⟩ : ByteArray) = dec 1 := by rw [show (1 : Int) = ((1 : Nat) : Int) from rfl, dec_nat]; simp [Lib.decDigits, str]
theorem l0 : (⟨#[48]⟩ : ByteArray) = dec 0 := by rw [show (0 : Int) = ((0 : Nat) : Int) from rfl, dec_nat]; simp [Lib.decDigits, str]
theorem l1000 : (⟨#[49, 48, 48, 48]⟩ : ByteArray) = dec 1000 := by rw [show (1000 : Int) = ((1000 : Nat) : Int) from rfl, dec_nat]; simp [Lib.decDigits, str]
theorem m999 : (⟨#[45, 57, 57, 57]⟩ : ByteArray) = dec (-999) := by rw [dec, Lib.itoa, if_pos (by decide)]; simp [Lib.decDigits, str]
theorem m12 : (⟨#[45, 49, 50]⟩ : ByteArray) = dec (-12) := by rw [dec, Lib.itoa, if_pos (by decide)]; simp [Lib.decDigits, str]
theorem l12 : (⟨#[49, 50]⟩ : ByteArray) = dec 12 := by rw [show (12 : Int) = ((12 : Nat) : Int) from rfl, dec_nat]; simp [Lib.decDigits, str]
theorem m144 : (⟨#[45, 49, 52, 52]⟩ : ByteArray) = dec (-144) := by rw [dec, Lib.itoa, if_pos (by decide)]; simp [Lib.decDigits, str]
theorem m7 : (⟨#[45, 55]⟩ : ByteArray) = dec (-7) := by rw [dec, Lib.itoa, if_pos (by decide)]; simp [Lib.decDigits, str]
theorem l2 : (⟨#[50]⟩ : ByteArray) = dec 2 := by rw [show (2 : Int) = ((2 : Nat) : Int) from rfl, dec_nat]; simp [Lib.decDigits, str]
theorem m2 : (⟨#[45, 50]⟩ : ByteArray) = dec (-2) := by rw [dec, Lib.itoa, if_pos (by decide)]; simp [Lib.decDigits, str]
theorem m4 : (⟨#[45, 52]⟩ : ByteArray) = dec (-4) := by rw [dec, Lib.itoa, if_pos (by decide)]; simp [Lib.decDigits, str]
theorem l4 : (⟨#[52]⟩ : ByteArray) = dec 4 := by rw [show (4 : Int) = ((4 : Nat) : Int) from rfl, dec_nat]; simp [Lib.decDigits, str]
theorem m18 : (⟨#[45, 49, 56]⟩ : ByteArray) = dec (-18) := by rw [dec, Lib.itoa, if_pos (by decide)]; simp [Lib.decDigits, str]
theorem l6 : (⟨#[54]⟩ : ByteArray) = dec 6 := by rw [show (6 : Int) = ((6 : Nat) : Int) from rfl, dec_nat]; simp [Lib.decDigits, str]
theorem l99 : (⟨#[57, 57]⟩ : ByteArray) = dec 99 := by rw [show (99 : Int) = ((99 : Nat) : Int) from rfl, dec_nat]; simp [Lib.decDigits, str]
theorem l9 : (⟨#[57]⟩ : ByteArray) = dec 9 := by rw [show (9 : Int) = ((9 : Nat) : Int) from rfl, dec_nat]; simp [Lib.decDigits, str]
theorem m1 : (⟨#[45, 49]⟩ : ByteArray) = dec (-1) := by rw [dec, Lib.itoa, if_pos (by decide)]; simp [Lib.decDigits, str]
theorem m8 : (⟨#[45, 56]⟩ : ByteArray) = dec (-8) := by rw [dec, Lib.itoa, if_pos (by decide)]; simp [Lib.decDigits, str]
theorem bad007 : validB (⟨#[48, 48, 55]⟩ : ByteArray).data.toList = false := by decide
theorem badm0 : validB (⟨#[45, 48]⟩ : ByteArray).data.toList = false := by decide
theorem badE : validB (⟨#[]⟩ : ByteArray).data.toList = false := by decide
end Go.Proofs.YtgpncnnlhhmjaaaGreatDoor
