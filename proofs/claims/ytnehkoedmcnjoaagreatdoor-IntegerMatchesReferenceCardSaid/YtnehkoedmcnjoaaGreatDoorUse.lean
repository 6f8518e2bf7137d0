/- The exported functions at numbers that are known: for the laws. -/
import Derived.Test.YtnehkoedmcnjoaaGreatDoorExr
namespace Go.Proofs.YtnehkoedmcnjoaaGreatDoor
open Go.RowKit

theorem both_dec {x y : Int} (fx : fits x = true) (fy : fits y = true) : both (dec x) (dec y) = true := by rw [both, valid_dec, valid_dec, fx, fy]; rfl
theorem opT_dec (f : Int → Int → Int) {x y : Int} (fx : fits x = true) (fy : fits y = true) : opT f (dec x) (dec y) = outT (f x y) := by rw [opT, both_dec fx fy, num_dec, num_dec]; rfl
theorem opE_dec (f : Int → Int → Int) {x y : Int} (fx : fits x = true) (fy : fits y = true) : opE f (dec x) (dec y) = outE (f x y) := by rw [opE, both_dec fx fy, num_dec, num_dec]; rfl
theorem outT_fits {z : Int} (h : fits z = true) : outT z = dec z := by rw [outT, h]; rfl
theorem outE_fits {z : Int} (h : fits z = true) : outE z = 0 := by rw [outE, h]; rfl
theorem outT_not {z : Int} (h : fits z = false) : outT z = ByteArray.empty := by rw [outT, h]; rfl
theorem outE_not {z : Int} (h : fits z = false) : outE z = 30 := by rw [outE, h]; rfl
section
variable {a b c d : ByteArray} {x y z q r : Int}
theorem add_at (ha : a = dec x) (hb : b = dec y) (hc : c = dec z) (hz : z = x + y) (fx : fits x = true) (fy : fits y = true) (fz : fits z = true) (w : World) (ht : Tab w) :
    Calls Tryz.prog 7 #[.string a, .string b] w fun e w' => e = .returned (.tuple #[.string c, .int .i64 0]) ∧ Below w.heap.size w w' := by
  subst ha hb hc
  have h := add_any (dec x) (dec y) w ht
  rw [opT_dec _ fx fy, opE_dec _ fx fy, ← hz, outT_fits fz, outE_fits fz] at h
  exact h
theorem sub_at (ha : a = dec x) (hb : b = dec y) (hc : c = dec z) (hz : z = x - y) (fx : fits x = true) (fy : fits y = true) (fz : fits z = true) (w : World) (ht : Tab w) :
    Calls Tryz.prog 9 #[.string a, .string b] w fun e w' => e = .returned (.tuple #[.string c, .int .i64 0]) ∧ Below w.heap.size w w' := by
  subst ha hb hc
  have h := sub_any (dec x) (dec y) w ht
  rw [opT_dec _ fx fy, opE_dec _ fx fy, ← hz, outT_fits fz, outE_fits fz] at h
  exact h
theorem mul_at (ha : a = dec x) (hb : b = dec y) (hc : c = dec z) (hz : z = x * y) (fx : fits x = true) (fy : fits y = true) (fz : fits z = true) (w : World) (ht : Tab w) :
    Calls Tryz.prog 11 #[.string a, .string b] w fun e w' => e = .returned (.tuple #[.string c, .int .i64 0]) ∧ Below w.heap.size w w' := by
  subst ha hb hc
  have h := mul_any (dec x) (dec y) w ht
  rw [opT_dec _ fx fy, opE_dec _ fx fy, ← hz, outT_fits fz, outE_fits fz] at h
  exact h
theorem gcd_at (ha : a = dec x) (hb : b = dec y) (hc : c = dec z) (hz : z = (Int.gcd x y : Int)) (fx : fits x = true) (fy : fits y = true) (fz : fits z = true) (w : World) (ht : Tab w) :
    Calls Tryz.prog 15 #[.string a, .string b] w fun e w' => e = .returned (.tuple #[.string c, .int .i64 0]) ∧ Below w.heap.size w w' := by
  subst ha hb hc
  have h := gcd_any (dec x) (dec y) w ht
  rw [opT_dec _ fx fy, opE_dec _ fx fy, ← hz, outT_fits fz, outE_fits fz] at h
  exact h
theorem div_at (ha : a = dec x) (hb : b = dec y) (hc : c = dec q) (hd : d = dec r) (hq : q = x / y) (hr : r = x % y) (hy : y ≠ 0) (fx : fits x = true) (fy : fits y = true) (w : World) (ht : Tab w) :
    Calls Tryz.prog 13 #[.string a, .string b] w fun e w' => e = .returned (.tuple #[.string c, .string d, .int .i64 0]) ∧ Below w.heap.size w w' := by
  subst ha hb hc hd
  have h := Div_any (dec x) (dec y) w ht
  have e0 : divOk (dec x) (dec y) = true := by rw [divOk, both_dec fx fy, num_dec, decide_eq_true (by simpa using hy)]; rfl
  rw [divQ, divR, divE, e0, if_pos rfl, if_pos rfl, if_pos rfl, num_dec, num_dec, ← hq, ← hr] at h
  exact h
theorem div_zero (ha : a = dec x) (hb : b = dec 0) (w : World) (ht : Tab w) :
    Calls Tryz.prog 13 #[.string a, .string b] w fun e w' => e = .returned (.tuple #[.string ByteArray.empty, .string ByteArray.empty, .int .i64 30]) ∧ Below w.heap.size w w' := by
  subst ha hb
  have h := Div_any (dec x) (dec 0) w ht
  have e0 : divOk (dec x) (dec 0) = false := by rw [divOk, num_dec]; simp
  rw [divQ, divR, divE, e0] at h
  exact h
theorem root_at {n : Nat} (ha : a = dec (n : Int)) (hc : c = dec z) (hz : z = (rt n : Int)) (fx : fits (n : Int) = true) (w : World) (ht : Tab w) :
    Calls Tryz.prog 17 #[.string a] w fun e w' => e = .returned (.tuple #[.string c, .int .i64 0]) ∧ Below w.heap.size w w' := by
  subst ha hc hz
  have h := Root_any (dec (n : Int)) w ht
  have e0 : rootOk (dec (n : Int)) = true := by rw [rootOk, valid_dec, fx, num_dec, decide_eq_false (by omega)]; rfl
  rw [rootT, rootE, e0, num_dec] at h
  exact h
theorem root_neg (ha : a = dec x) (hx : x < 0) (w : World) (ht : Tab w) :
    Calls Tryz.prog 17 #[.string a] w fun e w' => e = .returned (.tuple #[.string ByteArray.empty, .int .i64 30]) ∧ Below w.heap.size w w' := by
  subst ha
  have h := Root_any (dec x) w ht
  have e0 : rootOk (dec x) = false := by rw [rootOk, num_dec, decide_eq_true hx]; simp
  rw [rootT, rootE, e0] at h
  exact h
theorem cmp_at (ha : a = dec x) (hb : b = dec y) (hz : z = cmpI x y) (fx : fits x = true) (fy : fits y = true) (w : World) :
    Calls Tryz.prog 23 #[.string a, .string b] w fun e w' => e = .returned (.int .i64 z) ∧ Below w.heap.size w w' := by
  subst ha hb hz
  have h := Compare_any (dec x) (dec y) w
  rw [cmpS, both_dec fx fy, if_pos rfl, num_dec, num_dec] at h
  exact h
theorem valid_at (ha : a = dec x) (fx : fits x = true) (w : World) :
    Calls Tryz.prog 21 #[.string a] w fun e w' => e = .returned (.bool true) ∧ Below w.heap.size w w' := by
  subst ha
  have h := valid_any (dec x) w
  rw [valid_dec, fx] at h
  exact h
theorem invalid_at (ha : validB a.data.toList = false) (w : World) :
    Calls Tryz.prog 21 #[.string a] w fun e w' => e = .returned (.bool false) ∧ Below w.heap.size w w' := by
  have h := valid_any a w
  rw [ha] at h
  exact h
theorem add_bad (ha : validB a.data.toList = false) (w : World) (ht : Tab w) :
    Calls Tryz.prog 7 #[.string a, .string b] w fun e w' => e = .returned (.tuple #[.string ByteArray.empty, .int .i64 30]) ∧ Below w.heap.size w w' := by
  have h := add_any a b w ht
  have e0 : both a b = false := by rw [both, ha]; rfl
  rw [opT, opE, e0] at h
  exact h
theorem add_big (ha : a = dec x) (hb : b = dec y) (hz : fits (x + y) = false) (fx : fits x = true) (fy : fits y = true) (w : World) (ht : Tab w) :
    Calls Tryz.prog 7 #[.string a, .string b] w fun e w' => e = .returned (.tuple #[.string ByteArray.empty, .int .i64 30]) ∧ Below w.heap.size w w' := by
  subst ha hb
  have h := add_any (dec x) (dec y) w ht
  rw [opT_dec _ fx fy, opE_dec _ fx fy, outT_not hz, outE_not hz] at h
  exact h
theorem sub_big (ha : a = dec x) (hb : b = dec y) (hz : fits (x - y) = false) (fx : fits x = true) (fy : fits y = true) (w : World) (ht : Tab w) :
    Calls Tryz.prog 9 #[.string a, .string b] w fun e w' => e = .returned (.tuple #[.string ByteArray.empty, .int .i64 30]) ∧ Below w.heap.size w w' := by
  subst ha hb
  have h := sub_any (dec x) (dec y) w ht
  rw [opT_dec _ fx fy, opE_dec _ fx fy, outT_not hz, outE_not hz] at h
  exact h
theorem mul_big (ha : a = dec x) (hb : b = dec y) (hz : fits (x * y) = false) (fx : fits x = true) (fy : fits y = true) (w : World) (ht : Tab w) :
    Calls Tryz.prog 11 #[.string a, .string b] w fun e w' => e = .returned (.tuple #[.string ByteArray.empty, .int .i64 30]) ∧ Below w.heap.size w w' := by
  subst ha hb
  have h := mul_any (dec x) (dec y) w ht
  rw [opT_dec _ fx fy, opE_dec _ fx fy, outT_not hz, outE_not hz] at h
  exact h
end
theorem lim_big : 10 ^ 150 ≤ lim := Nat.pow_le_pow_right (by decide) (by decide)
theorem fits_small {z : Int} (h : z.natAbs < 10 ^ 150) : fits z = true := by
  simp only [fits, decide_eq_true_eq]
  exact Nat.lt_of_lt_of_le h lim_big
theorem fits_tiny {z : Int} (h : z.natAbs < 1000000000000000000000000000000) : fits z = true := fits_small (Nat.lt_of_lt_of_le h (Nat.le_trans (by decide) (Nat.pow_le_pow_right (n := 10) (by decide) (show 30 ≤ 150 by decide))))

theorem l999 : (⟨#[57, 57, 57]⟩ : ByteArray) = dec 999 := by rw [show (999 : Int) = ((999 : Nat) : Int) from rfl, dec_nat]; simp [Lib.decDigits, str]
theorem l1 : (⟨#[49]⟩ : ByteArray) = dec 1 := by rw [show (1 : Int) = ((1 : Nat) : Int) from rfl, dec_nat]; simp [Lib.decDigits, str]
theorem l0 : (⟨#[48]⟩ : ByteArray) = dec 0 := by rw [show (0 : Int) = ((0 : Nat) : Int) from rfl, dec_nat]; simp [Lib.decDigits, str]
theorem l1000 : (⟨#[49, 48, 48, 48]⟩ : ByteArray) = dec 1000 := by rw [show (1000 : Int) = ((1000 : Nat) : Int) from rfl, dec_nat]; simp [Lib.decDigits, str]
theorem m999 : (⟨#[45, 57, 57, 57]⟩ : ByteArray) = dec (-999) := by rw [dec, Lib.itoa, if_pos (by decide)]; simp [Lib.decDigits, str]
theorem m12 : (⟨#[45, 49, 50]⟩ : ByteArray) = dec (-12) := by rw [dec, Lib.itoa, if_pos (by decide)]; simp [Lib.decDigits, str]
theorem l12 : (⟨#[49, 50]⟩ : ByteArray) = dec 12 := by rw [show (12 : Int) = ((12 : Nat) : Int) from rfl, dec_nat]; simp [Lib.decDigits, str]
theorem m144 : (⟨#[45, 49, 52, 52]⟩ : ByteArray) = dec (-144) := by rw [dec, Lib.itoa, if_pos (by decide)]; simp [Lib.decDigits, str]
theorem m7 : (⟨#[45, 55]⟩ : ByteArray) = dec (-7) := by rw [dec, Lib.itoa, if_pos (by decide)]; simp [Lib.decDigits, str]
theorem l2 : (⟨#[50]⟩ : ByteArray) = dec 2 := by rw [show (2 : Int) = ((2 : Nat) : Int) from rfl, dec_nat]; simp [Lib.decDigits, str]
theorem m2 : (⟨#[45, 50]⟩ : ByteArray) = dec (-2) := by rw [dec, Lib.itoa, if_pos (by decide)]; simp [Lib.decDigits, str]
theorem m4 : (⟨#[45, 52]⟩ : ByteArray) = dec (-4) := by rw [dec, Lib.itoa, if_pos (by decide)]; simp [Lib.decDigits, str]
theorem l4 : (⟨#[52]⟩ : ByteArray) = dec 4 := by rw [show (4 : Int) = ((4 : Nat) : Int) from rfl, dec_nat]; simp [Lib.decDigits, str]
theorem m18 : (⟨#[45, 49, 56]⟩ : ByteArray) = dec (-18) := by rw [dec, Lib.itoa, if_pos (by decide)]; simp [Lib.decDigits, str]
theorem l6 : (⟨#[54]⟩ : ByteArray) = dec 6 := by rw [show (6 : Int) = ((6 : Nat) : Int) from rfl, dec_nat]; simp [Lib.decDigits, str]
theorem l99 : (⟨#[57, 57]⟩ : ByteArray) = dec 99 := by rw [show (99 : Int) = ((99 : Nat) : Int) from rfl, dec_nat]; simp [Lib.decDigits, str]
theorem l9 : (⟨#[57]⟩ : ByteArray) = dec 9 := by rw [show (9 : Int) = ((9 : Nat) : Int) from rfl, dec_nat]; simp [Lib.decDigits, str]
theorem m1 : (⟨#[45, 49]⟩ : ByteArray) = dec (-1) := by rw [dec, Lib.itoa, if_pos (by decide)]; simp [Lib.decDigits, str]
theorem m8 : (⟨#[45, 56]⟩ : ByteArray) = dec (-8) := by rw [dec, Lib.itoa, if_pos (by decide)]; simp [Lib.decDigits, str]
theorem bad007 : validB (⟨#[48, 48, 55]⟩ : ByteArray).data.toList = false := by decide
theorem badm0 : validB (⟨#[45, 48]⟩ : ByteArray).data.toList = false := by decide
theorem badE : validB (⟨#[]⟩ : ByteArray).data.toList = false := by decide
theorem rt99 : (9 : Int) = (rt 99 : Int) := by
  have := rt_unique (n := 99) (r := 9) (by decide) (by decide)
  rw [← this]; rfl

set_option maxRecDepth 100000 in
set_option maxHeartbeats 8000000 in
theorem sane_any (w : World) (ht : Tab w) :
    Calls Tryz.prog 4 #[] w fun e w' => e = .returned (.bool true) ∧ Below w.heap.size w w' := by
  have c1 := fun W (h : Tab W) => add_at l999 l1 l1000 (by decide) (fits_tiny (by decide)) (fits_tiny (by decide)) (fits_tiny (by decide)) W h
  have c2 := fun W (h : Tab W) => sub_at l1 l1000 m999 (by decide) (fits_tiny (by decide)) (fits_tiny (by decide)) (fits_tiny (by decide)) W h
  have c3 := fun W (h : Tab W) => mul_at m12 l12 m144 (by decide) (fits_tiny (by decide)) (fits_tiny (by decide)) (fits_tiny (by decide)) W h
  have c4 := fun W (h : Tab W) => div_at m7 l2 m4 l1 (by decide) (by decide) (by decide) (fits_tiny (by decide)) (fits_tiny (by decide)) W h
  have c5 := fun W (h : Tab W) => div_at m7 m2 l4 l1 (by decide) (by decide) (by decide) (fits_tiny (by decide)) (fits_tiny (by decide)) W h
  have c6 := fun W (h : Tab W) => gcd_at l12 m18 l6 (by decide) (fits_tiny (by decide)) (fits_tiny (by decide)) (fits_tiny (by decide)) W h
  have c7 := fun W (h : Tab W) => root_at (n := 99) l99 l9 rt99 (fits_tiny (by decide)) W h
  have c8 := fun W (h : Tab W) => root_neg m1 (by decide) W h
  have c9 := fun W (h : Tab W) => add_bad (b := ⟨#[49]⟩) bad007 W h
  have c10 := fun W => valid_at m7 (fits_tiny (by decide)) W
  have c11 := fun W => invalid_at badm0 W
  have c12 := fun W => invalid_at badE W
  have c13 := fun W => cmp_at (z := -1) m8 m7 (by decide) (fits_tiny (by decide)) (fits_tiny (by decide)) W
  have T := Lib.hid ht
  have C1 := Lib.hid c1; have C2 := Lib.hid c2; have C3 := Lib.hid c3; have C4 := Lib.hid c4; have C5 := Lib.hid c5; have C6 := Lib.hid c6; have C7 := Lib.hid c7; have C8 := Lib.hid c8; have C9 := Lib.hid c9; have C10 := Lib.hid c10; have C11 := Lib.hid c11; have C12 := Lib.hid c12; have C13 := Lib.hid c13
  clear c1 c2 c3 c4 c5 c6 c7 c8 c9 c10 c11 c12 c13 ht
  go_enter Tryz.func4, Tryz.ntmps4
  go_wp2_with (first
    | (go_at_call 7; (with_reducible refine (C1.out _ T.out).mono ?_); rintro e w1 ⟨rfl, b1⟩)
    | (go_at_call 9; (with_reducible refine (C2.out _ (T.out.below b1)).mono ?_); rintro e w2 ⟨rfl, b2⟩; have d2 := below_step b1 b2)
    | (go_at_call 11; (with_reducible refine (C3.out _ (T.out.below d2)).mono ?_); rintro e w3 ⟨rfl, b3⟩; have d3 := below_step d2 b3)
    | (go_at_call 13; (with_reducible refine (C4.out _ (T.out.below d3)).mono ?_); rintro e w4 ⟨rfl, b4⟩; have d4 := below_step d3 b4)
    | (go_at_call 13; (with_reducible refine (C5.out _ (T.out.below d4)).mono ?_); rintro e w5 ⟨rfl, b5⟩; have d5 := below_step d4 b5)
    | (go_at_call 15; (with_reducible refine (C6.out _ (T.out.below d5)).mono ?_); rintro e w6 ⟨rfl, b6⟩; have d6 := below_step d5 b6)
    | (go_at_call 17; (with_reducible refine (C7.out _ (T.out.below d6)).mono ?_); rintro e w7 ⟨rfl, b7⟩; have d7 := below_step d6 b7)
    | (go_at_call 17; (with_reducible refine (C8.out _ (T.out.below d7)).mono ?_); rintro e w8 ⟨rfl, b8⟩; have d8 := below_step d7 b8)
    | (go_at_call 7; (with_reducible refine (C9.out _ (T.out.below d8)).mono ?_); rintro e w9 ⟨rfl, b9⟩; have d9 := below_step d8 b9)
    | (go_at_call 21; (with_reducible refine (C10.out _).mono ?_); rintro e w10 ⟨rfl, b10⟩; have d10 := below_step d9 b10)
    | (go_at_call 21; (with_reducible refine (C11.out _).mono ?_); rintro e w11 ⟨rfl, b11⟩; have d11 := below_step d10 b11)
    | (go_at_call 21; (with_reducible refine (C12.out _).mono ?_); rintro e w12 ⟨rfl, b12⟩; have d12 := below_step d11 b12)
    | (go_at_call 23; (with_reducible refine (C13.out _).mono ?_); rintro e w13 ⟨rfl, b13⟩; have d13 := below_step d12 b13)
    | fail)
  all_goals go_ret
  all_goals exact ⟨rfl, d13⟩
end Go.Proofs.YtnehkoedmcnjoaaGreatDoor
