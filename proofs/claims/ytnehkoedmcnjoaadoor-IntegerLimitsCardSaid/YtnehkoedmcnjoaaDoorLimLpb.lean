/- A case of the walk of IntegerLimits. -/
import Derived.Test.YtnehkoedmcnjoaaDoorLim0
namespace Go.Proofs.YtnehkoedmcnjoaaDoor
open Go.RowKit

set_option maxRecDepth 100000 in
set_option maxHeartbeats 8000000 in
theorem limits_lpb (a X : ByteArray) (x c d : Int) (m n : Nat) (cX : ∀ W, Calls Tryd.prog 20 #[.string a, .int .i64 5] W fun e w' => e = .returned (.string X) ∧ Below W.heap.size W w') (hX : X = dec x) (mx : Bd x 5) (hx0 : x ≤ 0) (hc : -9223372036854775808 ≤ c) (hc1 : c ≤ 9223372036854775807) (hd : -9223372036854775808 ≤ d) (hd1 : d ≤ 9223372036854775807) (hpm : (m : Int) = (pk c : Int)) (hpn : (n : Int) = (pk d : Int)) (hmlt : m < 200) (hnlt : n < 200) (hm0 : 0 < m) (hbg : ¬ m + n < 200) (w : World) (ht : Tab w) :
    Calls Tryd.prog 10 #[.string a, .int .i64 c, .int .i64 d] w fun e w' => e = .returned (.bool true) ∧ Below w.heap.size w w' := by
  have fx := mx.fits (by decide)
  have f1 : fits 1 = true := bd_one.fits (by decide)
  have f0 : fits 0 = true := (bd_zero 1).fits (by decide)
  obtain ⟨w1, w2⟩ := lim_mn hmlt hnlt
  have hs1 : ¬ ((m : Int) + (n : Int) < 200) := by omega
  have hs2 : decide ((m : Int) + (n : Int) < 200) = false := decide_eq_false hs1
  have hm1 : ((m : Int) == 0) = false := by rw [beq_eq_false_iff_ne]; omega
  have hm2 : ¬ (m : Int) = 0 := by omega
  have hm3 : ¬ m = 0 := by omega
  obtain ⟨mo, hmo⟩ : ∃ vv : Int, vv = ((10 ^ 200 - 1 : Nat) : Int) := ⟨_, rfl⟩
  have fmo := fits_mo hmo
  have fnm := fits_nm hmo
  obtain ⟨MO, hMn⟩ : ∃ vv, vv = nin 200 := ⟨_, rfl⟩
  have hMo : MO = dec mo := by rw [hMn, hmo]; exact nin_dec 200 (by decide)
  obtain ⟨NM, hNn⟩ : ∃ vv, (⟨#[45]⟩ : ByteArray) ++ MO = vv := ⟨_, rfl⟩
  have hNm : NM = dec (-mo) := by rw [← hNn, hMn, hmo]; exact nin_minus 200 (by decide)
  have hNb : (⟨#[45]⟩ : ByteArray) ++ MO = NM := hNn
  obtain ⟨BAD, hB⟩ : ∃ vv, MO ++ (⟨#[57]⟩ : ByteArray) = vv := ⟨_, rfl⟩
  have hBad : validB BAD.data.toList = false := by rw [← hB, hMn, nin_succ]; exact nin_bad
  have hMs : MO.size = 200 := by rw [hMn, nin_size]
  obtain ⟨N1, hN1⟩ : ∃ vv, vv = nin m := ⟨_, rfl⟩
  have hN1d : N1 = dec ((10 ^ m - 1 : Nat) : Int) := by rw [hN1]; exact nin_dec m hm0
  have fn1 := fits_nin hmlt
  obtain ⟨N2, hN2⟩ : ∃ vv, vv = nin n := ⟨_, rfl⟩
  have hN2s : N2.size = n := by rw [hN2, nin_size]
  have hN2b : N2.size ≤ 200 := by rw [hN2, nin_size]; exact Nat.le_of_lt hnlt
  have hN2c : n ≤ 200 := Nat.le_of_lt hnlt
  obtain ⟨TWO, hTW⟩ : ∃ vv, (⟨#[49]⟩ : ByteArray) ++ N2 = vv := ⟨_, rfl⟩
  have hTWd : TWO = dec ((2 * 10 ^ n - 1 : Nat) : Int) := by rw [← hTW, hN2]; exact nin_one n
  have ftw := fits_two hnlt
  obtain ⟨one, hone⟩ : ∃ vv : Int, vv = ((10 ^ m : Nat) : Int) := ⟨_, rfl⟩
  obtain ⟨two, htwo⟩ : ∃ vv : Int, vv = ((2 * 10 ^ n - 1 : Nat) : Int) := ⟨_, rfl⟩
  have fone : fits one = true := by rw [hone]; exact fits_one hmlt
  rw [← htwo] at hTWd ftw
  obtain ⟨ONE, hONE⟩ : ∃ vv, vv = dec one := ⟨_, rfl⟩
  have hbig : fits (one * two) = false := by rw [hone, htwo]; exact prod_big hbg
  have fs0 := lim_add_fits hmo mx hx0
  have fd0 := lim_sub_fits hmo mx hx0
  obtain ⟨s, hs⟩ : ∃ vv : Int, vv = mo + x := ⟨_, rfl⟩
  obtain ⟨S, hS⟩ : ∃ vv, vv = dec s := ⟨_, rfl⟩
  obtain ⟨d0, hd0⟩ : ∃ vv : Int, vv = -mo - x := ⟨_, rfl⟩
  obtain ⟨D0, hD0⟩ : ∃ vv, vv = dec d0 := ⟨_, rfl⟩
  rw [← hs] at fs0
  rw [← hd0] at fd0
  obtain ⟨kk, hkk⟩ : ∃ vv : Int, vv = cmpI x 0 := ⟨_, rfl⟩
  have kka : kk ≤ (0 : Int) := by rw [hkk]; exact cmp_le hx0
  have kkb : ¬ (0 : Int) < kk := by omega
  have c1 := fun W => cX W
  have c2 := fun W => nines_at (k := 200) (m := 200) (by decide) rfl hMn W
  have c3 := fun W (h : Tab W) => add_at hMo hX hS hs fmo fx fs0 W h
  have c4 := fun W (h : Tab W) => sub_at hNm hX hD0 hd0 fnm fx fd0 W h
  have c5 := fun W => pick_at hc hc1 hpm W
  have c6 := fun W => pick_at hd hd1 hpn W
  have c7 := fun W => nines_at (k := m) (Nat.le_of_lt hmlt) rfl hN1 W
  have c8 := fun W (h : Tab W) => add_at hN1d l1 hONE (by rw [hone]; exact nin_add hm0) fn1 f1 fone W h
  have c9 := fun W => nines_at (k := n) (Nat.le_of_lt hnlt) rfl hN2 W
  have c10 := fun W (h : Tab W) => mul_big' hONE hTWd hbig fone ftw W h
  have c11 := fun W => cmp_at hX l0 hkk fx f0 W
  have c12 := fun W => invalid_at hBad W
  have c13 := fun W => valid_at hNm fnm W
  have T := Lib.hid ht
  have C1 := Lib.hid c1; have C2 := Lib.hid c2; have C3 := Lib.hid c3; have C4 := Lib.hid c4; have C5 := Lib.hid c5; have C6 := Lib.hid c6; have C7 := Lib.hid c7; have C8 := Lib.hid c8; have C9 := Lib.hid c9; have C10 := Lib.hid c10; have C11 := Lib.hid c11; have C12 := Lib.hid c12; have C13 := Lib.hid c13
  clear c1 c2 c3 c4 c5 c6 c7 c8 c9 c10 c11 c12 c13 ht cX hX mx fx f1 f0 hmo fmo fnm hx0 hMo hNm hc hd hc1 hd1 hMn hNn hBad hN1 hN1d hm0 fn1 hN2 hTWd ftw hone htwo fone hONE hbig hmlt hnlt hbg fs0 fd0 hs hS hd0 hD0 hkk hpm hpn
  go_enter Tryd.func10, Tryd.ntmps10
  go_wp2_with (first
    | (go_at_call 11; (with_reducible refine (sane_any _ T.out).mono ?_); rintro e w1 ⟨rfl, b0⟩)
    | (go_at_call 20; (with_reducible refine (C1.out _).mono ?_); rintro e w2 ⟨rfl, b1⟩; have d1 := below_step b0 b1)
    | (go_at_call 23; (with_reducible refine (C2.out _).mono ?_); rintro e w3 ⟨rfl, b2⟩; have d2 := below_step d1 b2)
    | (go_at_call 14; (with_reducible refine (C3.out _ (T.out.below d2)).mono ?_); rintro e w4 ⟨rfl, b3⟩; have d3 := below_step d2 b3)
    | (go_at_call 15; (with_reducible refine (C4.out _ (T.out.below d3)).mono ?_); rintro e w5 ⟨rfl, b4⟩; have d4 := below_step d3 b4)
    | (go_at_call 24; (with_reducible refine (C5.out _).mono ?_); rintro e w6 ⟨rfl, b5⟩; have d5 := below_step d4 b5)
    | (go_at_call 24; (with_reducible refine (C6.out _).mono ?_); rintro e w7 ⟨rfl, b6⟩; have d6 := below_step d5 b6)
    | (go_at_call 23; (with_reducible refine (C7.out _).mono ?_); rintro e w8 ⟨rfl, b7⟩; have d7 := below_step d6 b7)
    | (go_at_call 14; (with_reducible refine (C8.out _ (T.out.below d7)).mono ?_); rintro e w9 ⟨rfl, b8⟩; have d8 := below_step d7 b8)
    | (go_at_call 23; (with_reducible refine (C9.out _).mono ?_); rintro e w10 ⟨rfl, b9⟩; have d9 := below_step d8 b9)
    | (go_at_call 16; (with_reducible refine (C10.out _ (T.out.below d9)).mono ?_); rintro e w11 ⟨rfl, b10⟩; have d10 := below_step d9 b10)
    | (go_at_call 17; (with_reducible refine (C11.out _).mono ?_); rintro e w12 ⟨rfl, b11⟩; have d11 := below_step d10 b11)
    | (go_at_call 19; (with_reducible refine (C12.out _).mono ?_); rintro e w13 ⟨rfl, b12⟩; have d12 := below_step d11 b12)
    | (go_at_call 19; (with_reducible refine (C13.out _).mono ?_); rintro e w14 ⟨rfl, b13⟩; have d13 := below_step d12 b13)
    | fail)
  go_ret
  exact ⟨rfl, d13⟩
end Go.Proofs.YtnehkoedmcnjoaaDoor
