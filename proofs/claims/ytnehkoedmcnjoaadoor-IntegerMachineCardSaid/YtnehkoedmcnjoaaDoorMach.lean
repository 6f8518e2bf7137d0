/- The walk of IntegerMachine. -/
import Derived.Test.YtnehkoedmcnjoaaDoorText2
namespace Go.Proofs.YtnehkoedmcnjoaaDoor
open Go.RowKit

theorem tdiv_cases (x y : Int) (hy : y ≠ 0) : x = y * x.tdiv y + x.tmod y ∧ (x.tmod y).natAbs < y.natAbs ∧ (x.tmod y).natAbs ≤ x.natAbs ∧ (x.tdiv y).natAbs ≤ x.natAbs := by
  refine ⟨(Int.mul_tdiv_add_tmod x y).symm, ?_, ?_, ?_⟩
  · rw [Int.natAbs_tmod]; exact Nat.mod_lt _ (by omega)
  · rw [Int.natAbs_tmod]; exact Nat.mod_le _ _
  · rw [Int.natAbs_tdiv]; exact Nat.div_le_self _ _
theorem w64 (z : Int) (h : -9223372036854775808 ≤ z ∧ z ≤ 9223372036854775807) : wrap64 z = z := by rw [wrap64]; omega
theorem mul_range {x y : Int} (hx : -2147483648 ≤ x ∧ x ≤ 2147483647) (hy : -2147483648 ≤ y ∧ y ≤ 2147483647) : -4611686018427387904 ≤ x * y ∧ x * y ≤ 4611686018427387904 := by
  have h1 : (x * y).natAbs ≤ 2147483648 * 2147483648 := by rw [Int.natAbs_mul]; exact Nat.mul_le_mul (by omega) (by omega)
  omega

set_option maxRecDepth 100000 in
set_option maxHeartbeats 16000000 in
theorem machine_zero (x y : Int) (hx : -2147483648 ≤ x ∧ x ≤ 2147483647) (hy : -2147483648 ≤ y ∧ y ≤ 2147483647) (hz : y = 0) (w : World) (ht : Tab w) (he : Err w) :
    Calls Tryd.prog 3 #[.int .i32 x, .int .i32 y] w fun e w' => e = .returned (.bool true) ∧ Below w.heap.size w w' := by
  have hp := mul_range hx hy
  obtain ⟨p, hpp⟩ : ∃ p, x * y = p := ⟨_, rfl⟩
  obtain ⟨sm, hsm⟩ : ∃ sm, x + y = sm := ⟨_, rfl⟩
  obtain ⟨df, hdf⟩ : ∃ df, x - y = df := ⟨_, rfl⟩
  rw [hpp] at hp
  obtain ⟨X, hX⟩ : ∃ X, X = dec x := ⟨_, rfl⟩
  obtain ⟨Y, hY⟩ : ∃ Y, Y = dec y := ⟨_, rfl⟩
  obtain ⟨SM, hSM⟩ : ∃ Z, Z = dec sm := ⟨_, rfl⟩
  obtain ⟨DF, hDF⟩ : ∃ Z, Z = dec df := ⟨_, rfl⟩
  obtain ⟨PR, hPR⟩ : ∃ Z, Z = dec p := ⟨_, rfl⟩
  have fx : fits x = true := fits_tiny (by omega)
  have fy : fits y = true := fits_tiny (by omega)
  have c1 := fun W (h : Tab W) => FromInt_any x (by omega) (by omega) W h
  have c2 := fun W (h : Tab W) => FromInt_any y (by omega) (by omega) W h
  have c3 := fun W (h : Err W) => toInt_dec hX (by omega) (by omega) W h
  have c4 := fun W (h : Tab W) => add_at hX hY hSM hsm.symm fx fy (fits_tiny (by omega)) W h
  have c5 := fun W (h : Tab W) => sub_at hX hY hDF hdf.symm fx fy (fits_tiny (by omega)) W h
  have c6 := fun W (h : Tab W) => mul_at hX hY hPR hpp.symm fx fy (fits_tiny (by omega)) W h
  have c7 := fun W (h : Tab W) => FromInt_any sm (by omega) (by omega) W h
  have c8 := fun W (h : Tab W) => FromInt_any df (by omega) (by omega) W h
  have c9 := fun W (h : Tab W) => FromInt_any p (by omega) (by omega) W h
  have w1 : IntKind.i64.wrap x = x := by rw [IntWalk.i64_in _ (by omega)]
  have w2 : IntKind.i64.wrap y = y := by rw [IntWalk.i64_in _ (by omega)]
  have w3 : IntKind.i64.wrap sm = sm := by rw [IntWalk.i64_in _ (by omega)]
  have w4 : IntKind.i64.wrap df = df := by rw [IntWalk.i64_in _ (by omega)]
  have w5 : IntKind.i64.wrap p = p := by rw [IntWalk.i64_in _ (by omega)]
  obtain ⟨R, hR⟩ : ∃ R, R = cmpI x y := ⟨_, rfl⟩
  have c10 := fun W => cmp_at hX hY hR fx fy W
  have hRc : R = if x < y then -1 else if y < x then 1 else 0 := hR
  have c11 := fun W (h : Tab W) => div_zero (a := X) (b := Y) hX (by rw [hY, hz]) W h
  have hz0 : (y == 0) = true := by rw [hz]; rfl
  have he0 : (ByteArray.empty : ByteArray) = ⟨#[]⟩ := rfl
  rw [he0] at c11
  clear he0
  rw [← hX] at c1
  rw [← hY] at c2
  rw [← hSM] at c7
  rw [← hDF] at c8
  rw [← hPR] at c9
  have T := Lib.hid ht; have E := Lib.hid he; have HRC := Lib.hid hRc
  have C1 := Lib.hid c1; have C2 := Lib.hid c2; have C3 := Lib.hid c3; have C4 := Lib.hid c4; have C5 := Lib.hid c5; have C6 := Lib.hid c6; have C7 := Lib.hid c7; have C8 := Lib.hid c8; have C9 := Lib.hid c9; have C10 := Lib.hid c10; have C11 := Lib.hid c11
  clear hz c1 c2 c3 c4 c5 c6 c7 c8 c9 c10 c11 ht he hX hY hSM hDF hPR hR hRc fx fy
  rcases Int.lt_trichotomy x y with ho | ho | ho
  · have hr : R = -1 := by rw [HRC.out, if_pos ho]
    have ho2 : ¬ y < x := by omega
    subst hr
    clear HRC
    go_enter Tryd.func3, Tryd.ntmps3
    go_wp2_with (first
      | (go_at_call 11; (with_reducible refine (sane_any _ T.out).mono ?_); rintro e w1 ⟨rfl, b1⟩)
      | (go_at_call 12; (with_reducible refine (C1.out _ (T.out.below b1)).mono ?_); rintro e w2 ⟨rfl, b2⟩; have d2 := below_step b1 b2)
      | (go_at_call 12; (with_reducible refine (C2.out _ (T.out.below d2)).mono ?_); rintro e w3 ⟨rfl, b3⟩; have d3 := below_step d2 b3)
      | (go_at_call 13; (with_reducible refine (C3.out _ (E.out.below d3)).mono ?_); rintro e w4 ⟨rfl, b4⟩; have d4 := below_step d3 b4)
      | (go_at_call 14; (with_reducible refine (C4.out _ (T.out.below d4)).mono ?_); rintro e w5 ⟨rfl, b5⟩; have d5 := below_step d4 b5)
      | (go_at_call 15; (with_reducible refine (C5.out _ (T.out.below d5)).mono ?_); rintro e w6 ⟨rfl, b6⟩; have d6 := below_step d5 b6)
      | (go_at_call 16; (with_reducible refine (C6.out _ (T.out.below d6)).mono ?_); rintro e w7 ⟨rfl, b7⟩; have d7 := below_step d6 b7)
      | (go_at_call 12; (with_reducible refine (C7.out _ (T.out.below d7)).mono ?_); rintro e w8 ⟨rfl, b8⟩; have d8 := below_step d7 b8)
      | (go_at_call 12; (with_reducible refine (C8.out _ (T.out.below d8)).mono ?_); rintro e w9 ⟨rfl, b9⟩; have d9 := below_step d8 b9)
      | (go_at_call 12; (with_reducible refine (C9.out _ (T.out.below d9)).mono ?_); rintro e w10 ⟨rfl, b10⟩; have d10 := below_step d9 b10)
      | (go_at_call 17; (with_reducible refine (C10.out _).mono ?_); rintro e w11 ⟨rfl, b11⟩; have d11 := below_step d10 b11)
      | (go_at_call 18; (with_reducible refine (C11.out _ (T.out.below d11)).mono ?_); rintro e w12 ⟨rfl, b12⟩; have d12 := below_step d11 b12)
      | fail)
    go_ret
    exact ⟨rfl, d12⟩
  · have hr : R = 0 := by rw [HRC.out, if_neg (by omega), if_neg (by omega)]
    have ho1 : ¬ x < y := by omega
    have ho2 : ¬ y < x := by omega
    subst hr
    clear HRC ho
    go_enter Tryd.func3, Tryd.ntmps3
    go_wp2_with (first
      | (go_at_call 11; (with_reducible refine (sane_any _ T.out).mono ?_); rintro e w1 ⟨rfl, b1⟩)
      | (go_at_call 12; (with_reducible refine (C1.out _ (T.out.below b1)).mono ?_); rintro e w2 ⟨rfl, b2⟩; have d2 := below_step b1 b2)
      | (go_at_call 12; (with_reducible refine (C2.out _ (T.out.below d2)).mono ?_); rintro e w3 ⟨rfl, b3⟩; have d3 := below_step d2 b3)
      | (go_at_call 13; (with_reducible refine (C3.out _ (E.out.below d3)).mono ?_); rintro e w4 ⟨rfl, b4⟩; have d4 := below_step d3 b4)
      | (go_at_call 14; (with_reducible refine (C4.out _ (T.out.below d4)).mono ?_); rintro e w5 ⟨rfl, b5⟩; have d5 := below_step d4 b5)
      | (go_at_call 15; (with_reducible refine (C5.out _ (T.out.below d5)).mono ?_); rintro e w6 ⟨rfl, b6⟩; have d6 := below_step d5 b6)
      | (go_at_call 16; (with_reducible refine (C6.out _ (T.out.below d6)).mono ?_); rintro e w7 ⟨rfl, b7⟩; have d7 := below_step d6 b7)
      | (go_at_call 12; (with_reducible refine (C7.out _ (T.out.below d7)).mono ?_); rintro e w8 ⟨rfl, b8⟩; have d8 := below_step d7 b8)
      | (go_at_call 12; (with_reducible refine (C8.out _ (T.out.below d8)).mono ?_); rintro e w9 ⟨rfl, b9⟩; have d9 := below_step d8 b9)
      | (go_at_call 12; (with_reducible refine (C9.out _ (T.out.below d9)).mono ?_); rintro e w10 ⟨rfl, b10⟩; have d10 := below_step d9 b10)
      | (go_at_call 17; (with_reducible refine (C10.out _).mono ?_); rintro e w11 ⟨rfl, b11⟩; have d11 := below_step d10 b11)
      | (go_at_call 18; (with_reducible refine (C11.out _ (T.out.below d11)).mono ?_); rintro e w12 ⟨rfl, b12⟩; have d12 := below_step d11 b12)
      | fail)
    go_ret
    exact ⟨rfl, d12⟩
  · have hr : R = 1 := by rw [HRC.out, if_neg (by omega), if_pos ho]
    have ho1 : ¬ x < y := by omega
    subst hr
    clear HRC
    go_enter Tryd.func3, Tryd.ntmps3
    go_wp2_with (first
      | (go_at_call 11; (with_reducible refine (sane_any _ T.out).mono ?_); rintro e w1 ⟨rfl, b1⟩)
      | (go_at_call 12; (with_reducible refine (C1.out _ (T.out.below b1)).mono ?_); rintro e w2 ⟨rfl, b2⟩; have d2 := below_step b1 b2)
      | (go_at_call 12; (with_reducible refine (C2.out _ (T.out.below d2)).mono ?_); rintro e w3 ⟨rfl, b3⟩; have d3 := below_step d2 b3)
      | (go_at_call 13; (with_reducible refine (C3.out _ (E.out.below d3)).mono ?_); rintro e w4 ⟨rfl, b4⟩; have d4 := below_step d3 b4)
      | (go_at_call 14; (with_reducible refine (C4.out _ (T.out.below d4)).mono ?_); rintro e w5 ⟨rfl, b5⟩; have d5 := below_step d4 b5)
      | (go_at_call 15; (with_reducible refine (C5.out _ (T.out.below d5)).mono ?_); rintro e w6 ⟨rfl, b6⟩; have d6 := below_step d5 b6)
      | (go_at_call 16; (with_reducible refine (C6.out _ (T.out.below d6)).mono ?_); rintro e w7 ⟨rfl, b7⟩; have d7 := below_step d6 b7)
      | (go_at_call 12; (with_reducible refine (C7.out _ (T.out.below d7)).mono ?_); rintro e w8 ⟨rfl, b8⟩; have d8 := below_step d7 b8)
      | (go_at_call 12; (with_reducible refine (C8.out _ (T.out.below d8)).mono ?_); rintro e w9 ⟨rfl, b9⟩; have d9 := below_step d8 b9)
      | (go_at_call 12; (with_reducible refine (C9.out _ (T.out.below d9)).mono ?_); rintro e w10 ⟨rfl, b10⟩; have d10 := below_step d9 b10)
      | (go_at_call 17; (with_reducible refine (C10.out _).mono ?_); rintro e w11 ⟨rfl, b11⟩; have d11 := below_step d10 b11)
      | (go_at_call 18; (with_reducible refine (C11.out _ (T.out.below d11)).mono ?_); rintro e w12 ⟨rfl, b12⟩; have d12 := below_step d11 b12)
      | fail)
    go_ret
    exact ⟨rfl, d12⟩

set_option maxRecDepth 100000 in
set_option maxHeartbeats 16000000 in
theorem machine_pos (x y : Int) (hx : -2147483648 ≤ x ∧ x ≤ 2147483647) (hy : -2147483648 ≤ y ∧ y ≤ 2147483647) (hz : y ≠ 0) (hs0 : 0 ≤ x.tmod y) (w : World) (ht : Tab w) (he : Err w) :
    Calls Tryd.prog 3 #[.int .i32 x, .int .i32 y] w fun e w' => e = .returned (.bool true) ∧ Below w.heap.size w w' := by
  have hp := mul_range hx hy
  obtain ⟨p, hpp⟩ : ∃ p, x * y = p := ⟨_, rfl⟩
  obtain ⟨sm, hsm⟩ : ∃ sm, x + y = sm := ⟨_, rfl⟩
  obtain ⟨df, hdf⟩ : ∃ df, x - y = df := ⟨_, rfl⟩
  rw [hpp] at hp
  obtain ⟨X, hX⟩ : ∃ X, X = dec x := ⟨_, rfl⟩
  obtain ⟨Y, hY⟩ : ∃ Y, Y = dec y := ⟨_, rfl⟩
  obtain ⟨SM, hSM⟩ : ∃ Z, Z = dec sm := ⟨_, rfl⟩
  obtain ⟨DF, hDF⟩ : ∃ Z, Z = dec df := ⟨_, rfl⟩
  obtain ⟨PR, hPR⟩ : ∃ Z, Z = dec p := ⟨_, rfl⟩
  have fx : fits x = true := fits_tiny (by omega)
  have fy : fits y = true := fits_tiny (by omega)
  have c1 := fun W (h : Tab W) => FromInt_any x (by omega) (by omega) W h
  have c2 := fun W (h : Tab W) => FromInt_any y (by omega) (by omega) W h
  have c3 := fun W (h : Err W) => toInt_dec hX (by omega) (by omega) W h
  have c4 := fun W (h : Tab W) => add_at hX hY hSM hsm.symm fx fy (fits_tiny (by omega)) W h
  have c5 := fun W (h : Tab W) => sub_at hX hY hDF hdf.symm fx fy (fits_tiny (by omega)) W h
  have c6 := fun W (h : Tab W) => mul_at hX hY hPR hpp.symm fx fy (fits_tiny (by omega)) W h
  have c7 := fun W (h : Tab W) => FromInt_any sm (by omega) (by omega) W h
  have c8 := fun W (h : Tab W) => FromInt_any df (by omega) (by omega) W h
  have c9 := fun W (h : Tab W) => FromInt_any p (by omega) (by omega) W h
  have w1 : IntKind.i64.wrap x = x := by rw [IntWalk.i64_in _ (by omega)]
  have w2 : IntKind.i64.wrap y = y := by rw [IntWalk.i64_in _ (by omega)]
  have w3 : IntKind.i64.wrap sm = sm := by rw [IntWalk.i64_in _ (by omega)]
  have w4 : IntKind.i64.wrap df = df := by rw [IntWalk.i64_in _ (by omega)]
  have w5 : IntKind.i64.wrap p = p := by rw [IntWalk.i64_in _ (by omega)]
  obtain ⟨R, hR⟩ : ∃ R, R = cmpI x y := ⟨_, rfl⟩
  have c10 := fun W => cmp_at hX hY hR fx fy W
  have hRc : R = if x < y then -1 else if y < x then 1 else 0 := hR
  have hz0 : (y == 0) = false := by rw [beq_eq_false_iff_ne]; exact hz
  have ht1 := tdiv_cases x y hz
  obtain ⟨r0, hr0⟩ : ∃ r, x.tmod y = r := ⟨_, rfl⟩
  obtain ⟨q0, hq0⟩ : ∃ q, x.tdiv y = q := ⟨_, rfl⟩
  rw [hr0] at ht1 hs0
  rw [hq0] at ht1
  obtain ⟨q, hq⟩ : ∃ q, q = q0 := ⟨_, rfl⟩
  obtain ⟨r, hr⟩ : ∃ r, r = r0 := ⟨_, rfl⟩
  have hqr : x / y = q ∧ x % y = r := ediv_unique (by rw [hq, hr]; rw [Int.mul_comm]; exact ht1.1) (by omega) (by omega)
  obtain ⟨QS, hQS⟩ : ∃ Z, Z = dec q := ⟨_, rfl⟩
  obtain ⟨RS, hRS⟩ : ∃ Z, Z = dec r := ⟨_, rfl⟩
  have c11 := fun W (h : Tab W) => div_at hX hY hQS hRS hqr.1.symm hqr.2.symm hz fx fy W h
  have c12 := fun W (h : Tab W) => FromInt_any q (by omega) (by omega) W h
  have c13 := fun W (h : Tab W) => FromInt_any r (by omega) (by omega) W h
  rw [← hQS] at c12
  rw [← hRS] at c13
  have w6 : IntKind.i64.wrap q0 = q0 := by rw [IntWalk.i64_in _ (by omega)]
  have w7 : IntKind.i64.wrap r0 = r0 := by rw [IntWalk.i64_in _ (by omega)]
  have n1 : ¬ r0 < 0 := by omega
  subst hq hr
  clear ht1 hqr hQS hRS
  rw [← hX] at c1
  rw [← hY] at c2
  rw [← hSM] at c7
  rw [← hDF] at c8
  rw [← hPR] at c9
  have T := Lib.hid ht; have E := Lib.hid he; have HRC := Lib.hid hRc
  have C1 := Lib.hid c1; have C2 := Lib.hid c2; have C3 := Lib.hid c3; have C4 := Lib.hid c4; have C5 := Lib.hid c5; have C6 := Lib.hid c6; have C7 := Lib.hid c7; have C8 := Lib.hid c8; have C9 := Lib.hid c9; have C10 := Lib.hid c10; have C11 := Lib.hid c11; have C12 := Lib.hid c12; have C13 := Lib.hid c13
  clear c1 c2 c3 c4 c5 c6 c7 c8 c9 c10 c11 c12 c13 ht he hX hY hSM hDF hPR hR hRc fx fy
  rcases Int.lt_trichotomy x y with ho | ho | ho
  · have hr : R = -1 := by rw [HRC.out, if_pos ho]
    have ho2 : ¬ y < x := by omega
    subst hr
    clear HRC
    go_enter Tryd.func3, Tryd.ntmps3
    go_wp2_with (first
      | (go_at_call 11; (with_reducible refine (sane_any _ T.out).mono ?_); rintro e w1 ⟨rfl, b1⟩)
      | (go_at_call 12; (with_reducible refine (C1.out _ (T.out.below b1)).mono ?_); rintro e w2 ⟨rfl, b2⟩; have d2 := below_step b1 b2)
      | (go_at_call 12; (with_reducible refine (C2.out _ (T.out.below d2)).mono ?_); rintro e w3 ⟨rfl, b3⟩; have d3 := below_step d2 b3)
      | (go_at_call 13; (with_reducible refine (C3.out _ (E.out.below d3)).mono ?_); rintro e w4 ⟨rfl, b4⟩; have d4 := below_step d3 b4)
      | (go_at_call 14; (with_reducible refine (C4.out _ (T.out.below d4)).mono ?_); rintro e w5 ⟨rfl, b5⟩; have d5 := below_step d4 b5)
      | (go_at_call 15; (with_reducible refine (C5.out _ (T.out.below d5)).mono ?_); rintro e w6 ⟨rfl, b6⟩; have d6 := below_step d5 b6)
      | (go_at_call 16; (with_reducible refine (C6.out _ (T.out.below d6)).mono ?_); rintro e w7 ⟨rfl, b7⟩; have d7 := below_step d6 b7)
      | (go_at_call 12; (with_reducible refine (C7.out _ (T.out.below d7)).mono ?_); rintro e w8 ⟨rfl, b8⟩; have d8 := below_step d7 b8)
      | (go_at_call 12; (with_reducible refine (C8.out _ (T.out.below d8)).mono ?_); rintro e w9 ⟨rfl, b9⟩; have d9 := below_step d8 b9)
      | (go_at_call 12; (with_reducible refine (C9.out _ (T.out.below d9)).mono ?_); rintro e w10 ⟨rfl, b10⟩; have d10 := below_step d9 b10)
      | (go_at_call 17; (with_reducible refine (C10.out _).mono ?_); rintro e w11 ⟨rfl, b11⟩; have d11 := below_step d10 b11)
      | (go_at_call 18; (with_reducible refine (C11.out _ (T.out.below d11)).mono ?_); rintro e w12 ⟨rfl, b12⟩; have d12 := below_step d11 b12)
      | (go_at_call 12; (with_reducible refine (C12.out _ (T.out.below d12)).mono ?_); rintro e w13 ⟨rfl, b13⟩; have d13 := below_step d12 b13)
      | (go_at_call 12; (with_reducible refine (C13.out _ (T.out.below d13)).mono ?_); rintro e w14 ⟨rfl, b14⟩; have d14 := below_step d13 b14)
      | fail)
    go_ret
    exact ⟨rfl, d14⟩
  · have hr : R = 0 := by rw [HRC.out, if_neg (by omega), if_neg (by omega)]
    have ho1 : ¬ x < y := by omega
    have ho2 : ¬ y < x := by omega
    subst hr
    clear HRC ho
    go_enter Tryd.func3, Tryd.ntmps3
    go_wp2_with (first
      | (go_at_call 11; (with_reducible refine (sane_any _ T.out).mono ?_); rintro e w1 ⟨rfl, b1⟩)
      | (go_at_call 12; (with_reducible refine (C1.out _ (T.out.below b1)).mono ?_); rintro e w2 ⟨rfl, b2⟩; have d2 := below_step b1 b2)
      | (go_at_call 12; (with_reducible refine (C2.out _ (T.out.below d2)).mono ?_); rintro e w3 ⟨rfl, b3⟩; have d3 := below_step d2 b3)
      | (go_at_call 13; (with_reducible refine (C3.out _ (E.out.below d3)).mono ?_); rintro e w4 ⟨rfl, b4⟩; have d4 := below_step d3 b4)
      | (go_at_call 14; (with_reducible refine (C4.out _ (T.out.below d4)).mono ?_); rintro e w5 ⟨rfl, b5⟩; have d5 := below_step d4 b5)
      | (go_at_call 15; (with_reducible refine (C5.out _ (T.out.below d5)).mono ?_); rintro e w6 ⟨rfl, b6⟩; have d6 := below_step d5 b6)
      | (go_at_call 16; (with_reducible refine (C6.out _ (T.out.below d6)).mono ?_); rintro e w7 ⟨rfl, b7⟩; have d7 := below_step d6 b7)
      | (go_at_call 12; (with_reducible refine (C7.out _ (T.out.below d7)).mono ?_); rintro e w8 ⟨rfl, b8⟩; have d8 := below_step d7 b8)
      | (go_at_call 12; (with_reducible refine (C8.out _ (T.out.below d8)).mono ?_); rintro e w9 ⟨rfl, b9⟩; have d9 := below_step d8 b9)
      | (go_at_call 12; (with_reducible refine (C9.out _ (T.out.below d9)).mono ?_); rintro e w10 ⟨rfl, b10⟩; have d10 := below_step d9 b10)
      | (go_at_call 17; (with_reducible refine (C10.out _).mono ?_); rintro e w11 ⟨rfl, b11⟩; have d11 := below_step d10 b11)
      | (go_at_call 18; (with_reducible refine (C11.out _ (T.out.below d11)).mono ?_); rintro e w12 ⟨rfl, b12⟩; have d12 := below_step d11 b12)
      | (go_at_call 12; (with_reducible refine (C12.out _ (T.out.below d12)).mono ?_); rintro e w13 ⟨rfl, b13⟩; have d13 := below_step d12 b13)
      | (go_at_call 12; (with_reducible refine (C13.out _ (T.out.below d13)).mono ?_); rintro e w14 ⟨rfl, b14⟩; have d14 := below_step d13 b14)
      | fail)
    go_ret
    exact ⟨rfl, d14⟩
  · have hr : R = 1 := by rw [HRC.out, if_neg (by omega), if_pos ho]
    have ho1 : ¬ x < y := by omega
    subst hr
    clear HRC
    go_enter Tryd.func3, Tryd.ntmps3
    go_wp2_with (first
      | (go_at_call 11; (with_reducible refine (sane_any _ T.out).mono ?_); rintro e w1 ⟨rfl, b1⟩)
      | (go_at_call 12; (with_reducible refine (C1.out _ (T.out.below b1)).mono ?_); rintro e w2 ⟨rfl, b2⟩; have d2 := below_step b1 b2)
      | (go_at_call 12; (with_reducible refine (C2.out _ (T.out.below d2)).mono ?_); rintro e w3 ⟨rfl, b3⟩; have d3 := below_step d2 b3)
      | (go_at_call 13; (with_reducible refine (C3.out _ (E.out.below d3)).mono ?_); rintro e w4 ⟨rfl, b4⟩; have d4 := below_step d3 b4)
      | (go_at_call 14; (with_reducible refine (C4.out _ (T.out.below d4)).mono ?_); rintro e w5 ⟨rfl, b5⟩; have d5 := below_step d4 b5)
      | (go_at_call 15; (with_reducible refine (C5.out _ (T.out.below d5)).mono ?_); rintro e w6 ⟨rfl, b6⟩; have d6 := below_step d5 b6)
      | (go_at_call 16; (with_reducible refine (C6.out _ (T.out.below d6)).mono ?_); rintro e w7 ⟨rfl, b7⟩; have d7 := below_step d6 b7)
      | (go_at_call 12; (with_reducible refine (C7.out _ (T.out.below d7)).mono ?_); rintro e w8 ⟨rfl, b8⟩; have d8 := below_step d7 b8)
      | (go_at_call 12; (with_reducible refine (C8.out _ (T.out.below d8)).mono ?_); rintro e w9 ⟨rfl, b9⟩; have d9 := below_step d8 b9)
      | (go_at_call 12; (with_reducible refine (C9.out _ (T.out.below d9)).mono ?_); rintro e w10 ⟨rfl, b10⟩; have d10 := below_step d9 b10)
      | (go_at_call 17; (with_reducible refine (C10.out _).mono ?_); rintro e w11 ⟨rfl, b11⟩; have d11 := below_step d10 b11)
      | (go_at_call 18; (with_reducible refine (C11.out _ (T.out.below d11)).mono ?_); rintro e w12 ⟨rfl, b12⟩; have d12 := below_step d11 b12)
      | (go_at_call 12; (with_reducible refine (C12.out _ (T.out.below d12)).mono ?_); rintro e w13 ⟨rfl, b13⟩; have d13 := below_step d12 b13)
      | (go_at_call 12; (with_reducible refine (C13.out _ (T.out.below d13)).mono ?_); rintro e w14 ⟨rfl, b14⟩; have d14 := below_step d13 b14)
      | fail)
    go_ret
    exact ⟨rfl, d14⟩

set_option maxRecDepth 100000 in
set_option maxHeartbeats 16000000 in
theorem machine_negpos (x y : Int) (hx : -2147483648 ≤ x ∧ x ≤ 2147483647) (hy : -2147483648 ≤ y ∧ y ≤ 2147483647) (hz : y ≠ 0) (hs0 : x.tmod y < 0) (hyp : 0 < y) (w : World) (ht : Tab w) (he : Err w) :
    Calls Tryd.prog 3 #[.int .i32 x, .int .i32 y] w fun e w' => e = .returned (.bool true) ∧ Below w.heap.size w w' := by
  have hp := mul_range hx hy
  obtain ⟨p, hpp⟩ : ∃ p, x * y = p := ⟨_, rfl⟩
  obtain ⟨sm, hsm⟩ : ∃ sm, x + y = sm := ⟨_, rfl⟩
  obtain ⟨df, hdf⟩ : ∃ df, x - y = df := ⟨_, rfl⟩
  rw [hpp] at hp
  obtain ⟨X, hX⟩ : ∃ X, X = dec x := ⟨_, rfl⟩
  obtain ⟨Y, hY⟩ : ∃ Y, Y = dec y := ⟨_, rfl⟩
  obtain ⟨SM, hSM⟩ : ∃ Z, Z = dec sm := ⟨_, rfl⟩
  obtain ⟨DF, hDF⟩ : ∃ Z, Z = dec df := ⟨_, rfl⟩
  obtain ⟨PR, hPR⟩ : ∃ Z, Z = dec p := ⟨_, rfl⟩
  have fx : fits x = true := fits_tiny (by omega)
  have fy : fits y = true := fits_tiny (by omega)
  have c1 := fun W (h : Tab W) => FromInt_any x (by omega) (by omega) W h
  have c2 := fun W (h : Tab W) => FromInt_any y (by omega) (by omega) W h
  have c3 := fun W (h : Err W) => toInt_dec hX (by omega) (by omega) W h
  have c4 := fun W (h : Tab W) => add_at hX hY hSM hsm.symm fx fy (fits_tiny (by omega)) W h
  have c5 := fun W (h : Tab W) => sub_at hX hY hDF hdf.symm fx fy (fits_tiny (by omega)) W h
  have c6 := fun W (h : Tab W) => mul_at hX hY hPR hpp.symm fx fy (fits_tiny (by omega)) W h
  have c7 := fun W (h : Tab W) => FromInt_any sm (by omega) (by omega) W h
  have c8 := fun W (h : Tab W) => FromInt_any df (by omega) (by omega) W h
  have c9 := fun W (h : Tab W) => FromInt_any p (by omega) (by omega) W h
  have w1 : IntKind.i64.wrap x = x := by rw [IntWalk.i64_in _ (by omega)]
  have w2 : IntKind.i64.wrap y = y := by rw [IntWalk.i64_in _ (by omega)]
  have w3 : IntKind.i64.wrap sm = sm := by rw [IntWalk.i64_in _ (by omega)]
  have w4 : IntKind.i64.wrap df = df := by rw [IntWalk.i64_in _ (by omega)]
  have w5 : IntKind.i64.wrap p = p := by rw [IntWalk.i64_in _ (by omega)]
  obtain ⟨R, hR⟩ : ∃ R, R = cmpI x y := ⟨_, rfl⟩
  have c10 := fun W => cmp_at hX hY hR fx fy W
  have hRc : R = if x < y then -1 else if y < x then 1 else 0 := hR
  have hz0 : (y == 0) = false := by rw [beq_eq_false_iff_ne]; exact hz
  have ht1 := tdiv_cases x y hz
  obtain ⟨r0, hr0⟩ : ∃ r, x.tmod y = r := ⟨_, rfl⟩
  obtain ⟨q0, hq0⟩ : ∃ q, x.tdiv y = q := ⟨_, rfl⟩
  rw [hr0] at ht1 hs0
  rw [hq0] at ht1
  obtain ⟨q, hq⟩ : ∃ q, q = q0 - 1 := ⟨_, rfl⟩
  obtain ⟨r, hr⟩ : ∃ r, r = r0 + y := ⟨_, rfl⟩
  have hqr : x / y = q ∧ x % y = r := ediv_unique (by rw [hq, hr]; rw [Int.sub_mul, Int.mul_comm q0 y]; omega) (by omega) (by omega)
  obtain ⟨QS, hQS⟩ : ∃ Z, Z = dec q := ⟨_, rfl⟩
  obtain ⟨RS, hRS⟩ : ∃ Z, Z = dec r := ⟨_, rfl⟩
  have c11 := fun W (h : Tab W) => div_at hX hY hQS hRS hqr.1.symm hqr.2.symm hz fx fy W h
  have c12 := fun W (h : Tab W) => FromInt_any q (by omega) (by omega) W h
  have c13 := fun W (h : Tab W) => FromInt_any r (by omega) (by omega) W h
  rw [← hQS] at c12
  rw [← hRS] at c13
  have w6 : IntKind.i64.wrap q0 = q0 := by rw [IntWalk.i64_in _ (by omega)]
  have w7 : IntKind.i64.wrap r0 = r0 := by rw [IntWalk.i64_in _ (by omega)]
  have w8 : IntKind.i64.wrap (q0 - 1) = q := by rw [IntWalk.i64_in _ (by omega)]; omega
  have w9 : IntKind.i64.wrap (r0 + y) = r := by rw [IntWalk.i64_in _ (by omega)]; omega
  have v8 : q0 - 1 = q := hq.symm
  have v9 : r0 + y = r := hr.symm
  have n2 : ¬ r < 0 := by omega
  have u8 : wrap64 q = q := w64 q (by omega)
  have u9 : wrap64 r = r := w64 r (by omega)
  clear hq hr
  clear ht1 hqr hQS hRS
  rw [← hX] at c1
  rw [← hY] at c2
  rw [← hSM] at c7
  rw [← hDF] at c8
  rw [← hPR] at c9
  have T := Lib.hid ht; have E := Lib.hid he; have HRC := Lib.hid hRc
  have C1 := Lib.hid c1; have C2 := Lib.hid c2; have C3 := Lib.hid c3; have C4 := Lib.hid c4; have C5 := Lib.hid c5; have C6 := Lib.hid c6; have C7 := Lib.hid c7; have C8 := Lib.hid c8; have C9 := Lib.hid c9; have C10 := Lib.hid c10; have C11 := Lib.hid c11; have C12 := Lib.hid c12; have C13 := Lib.hid c13
  clear c1 c2 c3 c4 c5 c6 c7 c8 c9 c10 c11 c12 c13 ht he hX hY hSM hDF hPR hR hRc fx fy
  rcases Int.lt_trichotomy x y with ho | ho | ho
  · have hr : R = -1 := by rw [HRC.out, if_pos ho]
    have ho2 : ¬ y < x := by omega
    subst hr
    clear HRC
    go_enter Tryd.func3, Tryd.ntmps3
    go_wp2_with (first
      | (go_at_call 11; (with_reducible refine (sane_any _ T.out).mono ?_); rintro e w1 ⟨rfl, b1⟩)
      | (go_at_call 12; (with_reducible refine (C1.out _ (T.out.below b1)).mono ?_); rintro e w2 ⟨rfl, b2⟩; have d2 := below_step b1 b2)
      | (go_at_call 12; (with_reducible refine (C2.out _ (T.out.below d2)).mono ?_); rintro e w3 ⟨rfl, b3⟩; have d3 := below_step d2 b3)
      | (go_at_call 13; (with_reducible refine (C3.out _ (E.out.below d3)).mono ?_); rintro e w4 ⟨rfl, b4⟩; have d4 := below_step d3 b4)
      | (go_at_call 14; (with_reducible refine (C4.out _ (T.out.below d4)).mono ?_); rintro e w5 ⟨rfl, b5⟩; have d5 := below_step d4 b5)
      | (go_at_call 15; (with_reducible refine (C5.out _ (T.out.below d5)).mono ?_); rintro e w6 ⟨rfl, b6⟩; have d6 := below_step d5 b6)
      | (go_at_call 16; (with_reducible refine (C6.out _ (T.out.below d6)).mono ?_); rintro e w7 ⟨rfl, b7⟩; have d7 := below_step d6 b7)
      | (go_at_call 12; (with_reducible refine (C7.out _ (T.out.below d7)).mono ?_); rintro e w8 ⟨rfl, b8⟩; have d8 := below_step d7 b8)
      | (go_at_call 12; (with_reducible refine (C8.out _ (T.out.below d8)).mono ?_); rintro e w9 ⟨rfl, b9⟩; have d9 := below_step d8 b9)
      | (go_at_call 12; (with_reducible refine (C9.out _ (T.out.below d9)).mono ?_); rintro e w10 ⟨rfl, b10⟩; have d10 := below_step d9 b10)
      | (go_at_call 17; (with_reducible refine (C10.out _).mono ?_); rintro e w11 ⟨rfl, b11⟩; have d11 := below_step d10 b11)
      | (go_at_call 18; (with_reducible refine (C11.out _ (T.out.below d11)).mono ?_); rintro e w12 ⟨rfl, b12⟩; have d12 := below_step d11 b12)
      | (go_at_call 12; (with_reducible refine (C12.out _ (T.out.below d12)).mono ?_); rintro e w13 ⟨rfl, b13⟩; have d13 := below_step d12 b13)
      | (go_at_call 12; (with_reducible refine (C13.out _ (T.out.below d13)).mono ?_); rintro e w14 ⟨rfl, b14⟩; have d14 := below_step d13 b14)
      | fail)
    go_ret
    exact ⟨rfl, d14⟩
  · have hr : R = 0 := by rw [HRC.out, if_neg (by omega), if_neg (by omega)]
    have ho1 : ¬ x < y := by omega
    have ho2 : ¬ y < x := by omega
    subst hr
    clear HRC ho
    go_enter Tryd.func3, Tryd.ntmps3
    go_wp2_with (first
      | (go_at_call 11; (with_reducible refine (sane_any _ T.out).mono ?_); rintro e w1 ⟨rfl, b1⟩)
      | (go_at_call 12; (with_reducible refine (C1.out _ (T.out.below b1)).mono ?_); rintro e w2 ⟨rfl, b2⟩; have d2 := below_step b1 b2)
      | (go_at_call 12; (with_reducible refine (C2.out _ (T.out.below d2)).mono ?_); rintro e w3 ⟨rfl, b3⟩; have d3 := below_step d2 b3)
      | (go_at_call 13; (with_reducible refine (C3.out _ (E.out.below d3)).mono ?_); rintro e w4 ⟨rfl, b4⟩; have d4 := below_step d3 b4)
      | (go_at_call 14; (with_reducible refine (C4.out _ (T.out.below d4)).mono ?_); rintro e w5 ⟨rfl, b5⟩; have d5 := below_step d4 b5)
      | (go_at_call 15; (with_reducible refine (C5.out _ (T.out.below d5)).mono ?_); rintro e w6 ⟨rfl, b6⟩; have d6 := below_step d5 b6)
      | (go_at_call 16; (with_reducible refine (C6.out _ (T.out.below d6)).mono ?_); rintro e w7 ⟨rfl, b7⟩; have d7 := below_step d6 b7)
      | (go_at_call 12; (with_reducible refine (C7.out _ (T.out.below d7)).mono ?_); rintro e w8 ⟨rfl, b8⟩; have d8 := below_step d7 b8)
      | (go_at_call 12; (with_reducible refine (C8.out _ (T.out.below d8)).mono ?_); rintro e w9 ⟨rfl, b9⟩; have d9 := below_step d8 b9)
      | (go_at_call 12; (with_reducible refine (C9.out _ (T.out.below d9)).mono ?_); rintro e w10 ⟨rfl, b10⟩; have d10 := below_step d9 b10)
      | (go_at_call 17; (with_reducible refine (C10.out _).mono ?_); rintro e w11 ⟨rfl, b11⟩; have d11 := below_step d10 b11)
      | (go_at_call 18; (with_reducible refine (C11.out _ (T.out.below d11)).mono ?_); rintro e w12 ⟨rfl, b12⟩; have d12 := below_step d11 b12)
      | (go_at_call 12; (with_reducible refine (C12.out _ (T.out.below d12)).mono ?_); rintro e w13 ⟨rfl, b13⟩; have d13 := below_step d12 b13)
      | (go_at_call 12; (with_reducible refine (C13.out _ (T.out.below d13)).mono ?_); rintro e w14 ⟨rfl, b14⟩; have d14 := below_step d13 b14)
      | fail)
    go_ret
    exact ⟨rfl, d14⟩
  · have hr : R = 1 := by rw [HRC.out, if_neg (by omega), if_pos ho]
    have ho1 : ¬ x < y := by omega
    subst hr
    clear HRC
    go_enter Tryd.func3, Tryd.ntmps3
    go_wp2_with (first
      | (go_at_call 11; (with_reducible refine (sane_any _ T.out).mono ?_); rintro e w1 ⟨rfl, b1⟩)
      | (go_at_call 12; (with_reducible refine (C1.out _ (T.out.below b1)).mono ?_); rintro e w2 ⟨rfl, b2⟩; have d2 := below_step b1 b2)
      | (go_at_call 12; (with_reducible refine (C2.out _ (T.out.below d2)).mono ?_); rintro e w3 ⟨rfl, b3⟩; have d3 := below_step d2 b3)
      | (go_at_call 13; (with_reducible refine (C3.out _ (E.out.below d3)).mono ?_); rintro e w4 ⟨rfl, b4⟩; have d4 := below_step d3 b4)
      | (go_at_call 14; (with_reducible refine (C4.out _ (T.out.below d4)).mono ?_); rintro e w5 ⟨rfl, b5⟩; have d5 := below_step d4 b5)
      | (go_at_call 15; (with_reducible refine (C5.out _ (T.out.below d5)).mono ?_); rintro e w6 ⟨rfl, b6⟩; have d6 := below_step d5 b6)
      | (go_at_call 16; (with_reducible refine (C6.out _ (T.out.below d6)).mono ?_); rintro e w7 ⟨rfl, b7⟩; have d7 := below_step d6 b7)
      | (go_at_call 12; (with_reducible refine (C7.out _ (T.out.below d7)).mono ?_); rintro e w8 ⟨rfl, b8⟩; have d8 := below_step d7 b8)
      | (go_at_call 12; (with_reducible refine (C8.out _ (T.out.below d8)).mono ?_); rintro e w9 ⟨rfl, b9⟩; have d9 := below_step d8 b9)
      | (go_at_call 12; (with_reducible refine (C9.out _ (T.out.below d9)).mono ?_); rintro e w10 ⟨rfl, b10⟩; have d10 := below_step d9 b10)
      | (go_at_call 17; (with_reducible refine (C10.out _).mono ?_); rintro e w11 ⟨rfl, b11⟩; have d11 := below_step d10 b11)
      | (go_at_call 18; (with_reducible refine (C11.out _ (T.out.below d11)).mono ?_); rintro e w12 ⟨rfl, b12⟩; have d12 := below_step d11 b12)
      | (go_at_call 12; (with_reducible refine (C12.out _ (T.out.below d12)).mono ?_); rintro e w13 ⟨rfl, b13⟩; have d13 := below_step d12 b13)
      | (go_at_call 12; (with_reducible refine (C13.out _ (T.out.below d13)).mono ?_); rintro e w14 ⟨rfl, b14⟩; have d14 := below_step d13 b14)
      | fail)
    go_ret
    exact ⟨rfl, d14⟩

set_option maxRecDepth 100000 in
set_option maxHeartbeats 16000000 in
theorem machine_negneg (x y : Int) (hx : -2147483648 ≤ x ∧ x ≤ 2147483647) (hy : -2147483648 ≤ y ∧ y ≤ 2147483647) (hz : y ≠ 0) (hs0 : x.tmod y < 0) (hyn : y < 0) (w : World) (ht : Tab w) (he : Err w) :
    Calls Tryd.prog 3 #[.int .i32 x, .int .i32 y] w fun e w' => e = .returned (.bool true) ∧ Below w.heap.size w w' := by
  have hp := mul_range hx hy
  obtain ⟨p, hpp⟩ : ∃ p, x * y = p := ⟨_, rfl⟩
  obtain ⟨sm, hsm⟩ : ∃ sm, x + y = sm := ⟨_, rfl⟩
  obtain ⟨df, hdf⟩ : ∃ df, x - y = df := ⟨_, rfl⟩
  rw [hpp] at hp
  obtain ⟨X, hX⟩ : ∃ X, X = dec x := ⟨_, rfl⟩
  obtain ⟨Y, hY⟩ : ∃ Y, Y = dec y := ⟨_, rfl⟩
  obtain ⟨SM, hSM⟩ : ∃ Z, Z = dec sm := ⟨_, rfl⟩
  obtain ⟨DF, hDF⟩ : ∃ Z, Z = dec df := ⟨_, rfl⟩
  obtain ⟨PR, hPR⟩ : ∃ Z, Z = dec p := ⟨_, rfl⟩
  have fx : fits x = true := fits_tiny (by omega)
  have fy : fits y = true := fits_tiny (by omega)
  have c1 := fun W (h : Tab W) => FromInt_any x (by omega) (by omega) W h
  have c2 := fun W (h : Tab W) => FromInt_any y (by omega) (by omega) W h
  have c3 := fun W (h : Err W) => toInt_dec hX (by omega) (by omega) W h
  have c4 := fun W (h : Tab W) => add_at hX hY hSM hsm.symm fx fy (fits_tiny (by omega)) W h
  have c5 := fun W (h : Tab W) => sub_at hX hY hDF hdf.symm fx fy (fits_tiny (by omega)) W h
  have c6 := fun W (h : Tab W) => mul_at hX hY hPR hpp.symm fx fy (fits_tiny (by omega)) W h
  have c7 := fun W (h : Tab W) => FromInt_any sm (by omega) (by omega) W h
  have c8 := fun W (h : Tab W) => FromInt_any df (by omega) (by omega) W h
  have c9 := fun W (h : Tab W) => FromInt_any p (by omega) (by omega) W h
  have w1 : IntKind.i64.wrap x = x := by rw [IntWalk.i64_in _ (by omega)]
  have w2 : IntKind.i64.wrap y = y := by rw [IntWalk.i64_in _ (by omega)]
  have w3 : IntKind.i64.wrap sm = sm := by rw [IntWalk.i64_in _ (by omega)]
  have w4 : IntKind.i64.wrap df = df := by rw [IntWalk.i64_in _ (by omega)]
  have w5 : IntKind.i64.wrap p = p := by rw [IntWalk.i64_in _ (by omega)]
  obtain ⟨R, hR⟩ : ∃ R, R = cmpI x y := ⟨_, rfl⟩
  have c10 := fun W => cmp_at hX hY hR fx fy W
  have hRc : R = if x < y then -1 else if y < x then 1 else 0 := hR
  have hz0 : (y == 0) = false := by rw [beq_eq_false_iff_ne]; exact hz
  have ht1 := tdiv_cases x y hz
  obtain ⟨r0, hr0⟩ : ∃ r, x.tmod y = r := ⟨_, rfl⟩
  obtain ⟨q0, hq0⟩ : ∃ q, x.tdiv y = q := ⟨_, rfl⟩
  rw [hr0] at ht1 hs0
  rw [hq0] at ht1
  obtain ⟨q, hq⟩ : ∃ q, q = q0 + 1 := ⟨_, rfl⟩
  obtain ⟨r, hr⟩ : ∃ r, r = r0 - y := ⟨_, rfl⟩
  have hqr : x / y = q ∧ x % y = r := ediv_unique (by rw [hq, hr]; rw [Int.add_mul, Int.mul_comm q0 y]; omega) (by omega) (by omega)
  obtain ⟨QS, hQS⟩ : ∃ Z, Z = dec q := ⟨_, rfl⟩
  obtain ⟨RS, hRS⟩ : ∃ Z, Z = dec r := ⟨_, rfl⟩
  have c11 := fun W (h : Tab W) => div_at hX hY hQS hRS hqr.1.symm hqr.2.symm hz fx fy W h
  have c12 := fun W (h : Tab W) => FromInt_any q (by omega) (by omega) W h
  have c13 := fun W (h : Tab W) => FromInt_any r (by omega) (by omega) W h
  rw [← hQS] at c12
  rw [← hRS] at c13
  have w6 : IntKind.i64.wrap q0 = q0 := by rw [IntWalk.i64_in _ (by omega)]
  have w7 : IntKind.i64.wrap r0 = r0 := by rw [IntWalk.i64_in _ (by omega)]
  have w8 : IntKind.i64.wrap (q0 + 1) = q := by rw [IntWalk.i64_in _ (by omega)]; omega
  have w9 : IntKind.i64.wrap (r0 - y) = r := by rw [IntWalk.i64_in _ (by omega)]; omega
  have v8 : q0 + 1 = q := hq.symm
  have v9 : r0 - y = r := hr.symm
  have n2 : ¬ 0 < y := by omega
  have u8 : wrap64 q = q := w64 q (by omega)
  have u9 : wrap64 r = r := w64 r (by omega)
  clear hq hr
  clear ht1 hqr hQS hRS
  rw [← hX] at c1
  rw [← hY] at c2
  rw [← hSM] at c7
  rw [← hDF] at c8
  rw [← hPR] at c9
  have T := Lib.hid ht; have E := Lib.hid he; have HRC := Lib.hid hRc
  have C1 := Lib.hid c1; have C2 := Lib.hid c2; have C3 := Lib.hid c3; have C4 := Lib.hid c4; have C5 := Lib.hid c5; have C6 := Lib.hid c6; have C7 := Lib.hid c7; have C8 := Lib.hid c8; have C9 := Lib.hid c9; have C10 := Lib.hid c10; have C11 := Lib.hid c11; have C12 := Lib.hid c12; have C13 := Lib.hid c13
  clear c1 c2 c3 c4 c5 c6 c7 c8 c9 c10 c11 c12 c13 ht he hX hY hSM hDF hPR hR hRc fx fy
  rcases Int.lt_trichotomy x y with ho | ho | ho
  · have hr : R = -1 := by rw [HRC.out, if_pos ho]
    have ho2 : ¬ y < x := by omega
    subst hr
    clear HRC
    go_enter Tryd.func3, Tryd.ntmps3
    go_wp2_with (first
      | (go_at_call 11; (with_reducible refine (sane_any _ T.out).mono ?_); rintro e w1 ⟨rfl, b1⟩)
      | (go_at_call 12; (with_reducible refine (C1.out _ (T.out.below b1)).mono ?_); rintro e w2 ⟨rfl, b2⟩; have d2 := below_step b1 b2)
      | (go_at_call 12; (with_reducible refine (C2.out _ (T.out.below d2)).mono ?_); rintro e w3 ⟨rfl, b3⟩; have d3 := below_step d2 b3)
      | (go_at_call 13; (with_reducible refine (C3.out _ (E.out.below d3)).mono ?_); rintro e w4 ⟨rfl, b4⟩; have d4 := below_step d3 b4)
      | (go_at_call 14; (with_reducible refine (C4.out _ (T.out.below d4)).mono ?_); rintro e w5 ⟨rfl, b5⟩; have d5 := below_step d4 b5)
      | (go_at_call 15; (with_reducible refine (C5.out _ (T.out.below d5)).mono ?_); rintro e w6 ⟨rfl, b6⟩; have d6 := below_step d5 b6)
      | (go_at_call 16; (with_reducible refine (C6.out _ (T.out.below d6)).mono ?_); rintro e w7 ⟨rfl, b7⟩; have d7 := below_step d6 b7)
      | (go_at_call 12; (with_reducible refine (C7.out _ (T.out.below d7)).mono ?_); rintro e w8 ⟨rfl, b8⟩; have d8 := below_step d7 b8)
      | (go_at_call 12; (with_reducible refine (C8.out _ (T.out.below d8)).mono ?_); rintro e w9 ⟨rfl, b9⟩; have d9 := below_step d8 b9)
      | (go_at_call 12; (with_reducible refine (C9.out _ (T.out.below d9)).mono ?_); rintro e w10 ⟨rfl, b10⟩; have d10 := below_step d9 b10)
      | (go_at_call 17; (with_reducible refine (C10.out _).mono ?_); rintro e w11 ⟨rfl, b11⟩; have d11 := below_step d10 b11)
      | (go_at_call 18; (with_reducible refine (C11.out _ (T.out.below d11)).mono ?_); rintro e w12 ⟨rfl, b12⟩; have d12 := below_step d11 b12)
      | (go_at_call 12; (with_reducible refine (C12.out _ (T.out.below d12)).mono ?_); rintro e w13 ⟨rfl, b13⟩; have d13 := below_step d12 b13)
      | (go_at_call 12; (with_reducible refine (C13.out _ (T.out.below d13)).mono ?_); rintro e w14 ⟨rfl, b14⟩; have d14 := below_step d13 b14)
      | fail)
    go_ret
    exact ⟨rfl, d14⟩
  · have hr : R = 0 := by rw [HRC.out, if_neg (by omega), if_neg (by omega)]
    have ho1 : ¬ x < y := by omega
    have ho2 : ¬ y < x := by omega
    subst hr
    clear HRC ho
    go_enter Tryd.func3, Tryd.ntmps3
    go_wp2_with (first
      | (go_at_call 11; (with_reducible refine (sane_any _ T.out).mono ?_); rintro e w1 ⟨rfl, b1⟩)
      | (go_at_call 12; (with_reducible refine (C1.out _ (T.out.below b1)).mono ?_); rintro e w2 ⟨rfl, b2⟩; have d2 := below_step b1 b2)
      | (go_at_call 12; (with_reducible refine (C2.out _ (T.out.below d2)).mono ?_); rintro e w3 ⟨rfl, b3⟩; have d3 := below_step d2 b3)
      | (go_at_call 13; (with_reducible refine (C3.out _ (E.out.below d3)).mono ?_); rintro e w4 ⟨rfl, b4⟩; have d4 := below_step d3 b4)
      | (go_at_call 14; (with_reducible refine (C4.out _ (T.out.below d4)).mono ?_); rintro e w5 ⟨rfl, b5⟩; have d5 := below_step d4 b5)
      | (go_at_call 15; (with_reducible refine (C5.out _ (T.out.below d5)).mono ?_); rintro e w6 ⟨rfl, b6⟩; have d6 := below_step d5 b6)
      | (go_at_call 16; (with_reducible refine (C6.out _ (T.out.below d6)).mono ?_); rintro e w7 ⟨rfl, b7⟩; have d7 := below_step d6 b7)
      | (go_at_call 12; (with_reducible refine (C7.out _ (T.out.below d7)).mono ?_); rintro e w8 ⟨rfl, b8⟩; have d8 := below_step d7 b8)
      | (go_at_call 12; (with_reducible refine (C8.out _ (T.out.below d8)).mono ?_); rintro e w9 ⟨rfl, b9⟩; have d9 := below_step d8 b9)
      | (go_at_call 12; (with_reducible refine (C9.out _ (T.out.below d9)).mono ?_); rintro e w10 ⟨rfl, b10⟩; have d10 := below_step d9 b10)
      | (go_at_call 17; (with_reducible refine (C10.out _).mono ?_); rintro e w11 ⟨rfl, b11⟩; have d11 := below_step d10 b11)
      | (go_at_call 18; (with_reducible refine (C11.out _ (T.out.below d11)).mono ?_); rintro e w12 ⟨rfl, b12⟩; have d12 := below_step d11 b12)
      | (go_at_call 12; (with_reducible refine (C12.out _ (T.out.below d12)).mono ?_); rintro e w13 ⟨rfl, b13⟩; have d13 := below_step d12 b13)
      | (go_at_call 12; (with_reducible refine (C13.out _ (T.out.below d13)).mono ?_); rintro e w14 ⟨rfl, b14⟩; have d14 := below_step d13 b14)
      | fail)
    go_ret
    exact ⟨rfl, d14⟩
  · have hr : R = 1 := by rw [HRC.out, if_neg (by omega), if_pos ho]
    have ho1 : ¬ x < y := by omega
    subst hr
    clear HRC
    go_enter Tryd.func3, Tryd.ntmps3
    go_wp2_with (first
      | (go_at_call 11; (with_reducible refine (sane_any _ T.out).mono ?_); rintro e w1 ⟨rfl, b1⟩)
      | (go_at_call 12; (with_reducible refine (C1.out _ (T.out.below b1)).mono ?_); rintro e w2 ⟨rfl, b2⟩; have d2 := below_step b1 b2)
      | (go_at_call 12; (with_reducible refine (C2.out _ (T.out.below d2)).mono ?_); rintro e w3 ⟨rfl, b3⟩; have d3 := below_step d2 b3)
      | (go_at_call 13; (with_reducible refine (C3.out _ (E.out.below d3)).mono ?_); rintro e w4 ⟨rfl, b4⟩; have d4 := below_step d3 b4)
      | (go_at_call 14; (with_reducible refine (C4.out _ (T.out.below d4)).mono ?_); rintro e w5 ⟨rfl, b5⟩; have d5 := below_step d4 b5)
      | (go_at_call 15; (with_reducible refine (C5.out _ (T.out.below d5)).mono ?_); rintro e w6 ⟨rfl, b6⟩; have d6 := below_step d5 b6)
      | (go_at_call 16; (with_reducible refine (C6.out _ (T.out.below d6)).mono ?_); rintro e w7 ⟨rfl, b7⟩; have d7 := below_step d6 b7)
      | (go_at_call 12; (with_reducible refine (C7.out _ (T.out.below d7)).mono ?_); rintro e w8 ⟨rfl, b8⟩; have d8 := below_step d7 b8)
      | (go_at_call 12; (with_reducible refine (C8.out _ (T.out.below d8)).mono ?_); rintro e w9 ⟨rfl, b9⟩; have d9 := below_step d8 b9)
      | (go_at_call 12; (with_reducible refine (C9.out _ (T.out.below d9)).mono ?_); rintro e w10 ⟨rfl, b10⟩; have d10 := below_step d9 b10)
      | (go_at_call 17; (with_reducible refine (C10.out _).mono ?_); rintro e w11 ⟨rfl, b11⟩; have d11 := below_step d10 b11)
      | (go_at_call 18; (with_reducible refine (C11.out _ (T.out.below d11)).mono ?_); rintro e w12 ⟨rfl, b12⟩; have d12 := below_step d11 b12)
      | (go_at_call 12; (with_reducible refine (C12.out _ (T.out.below d12)).mono ?_); rintro e w13 ⟨rfl, b13⟩; have d13 := below_step d12 b13)
      | (go_at_call 12; (with_reducible refine (C13.out _ (T.out.below d13)).mono ?_); rintro e w14 ⟨rfl, b14⟩; have d14 := below_step d13 b14)
      | fail)
    go_ret
    exact ⟨rfl, d14⟩

theorem machine_walk (x y : Int) (hx : -2147483648 ≤ x ∧ x ≤ 2147483647) (hy : -2147483648 ≤ y ∧ y ≤ 2147483647) (w : World) (ht : Tab w) (he : Err w) :
    Calls Tryd.prog 3 #[.int .i32 x, .int .i32 y] w fun e w' => e = .returned (.bool true) ∧ Below w.heap.size w w' := by
  by_cases hz : y = 0
  · exact machine_zero x y hx hy hz w ht he
  · rcases Int.lt_or_le (x.tmod y) 0 with h | h
    · rcases Int.lt_or_gt_of_ne hz with h2 | h2
      · exact machine_negneg x y hx hy hz h h2 w ht he
      · exact machine_negpos x y hx hy hz h h2 w ht he
    · exact machine_pos x y hx hy hz h w ht he
end Go.Proofs.YtnehkoedmcnjoaaDoor
