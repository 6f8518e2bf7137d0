/- The walk of IntegerCommon. -/
import Derived.Test.YtnehkoedmcnjoaaDoorBd
namespace Go.Proofs.YtnehkoedmcnjoaaDoor
open Go.RowKit

set_option maxRecDepth 100000 in
set_option maxHeartbeats 8000000 in
theorem common_zero (a b c Z : ByteArray) (z : Int) (cX : ∀ W, Calls Tryd.prog 20 #[.string a, .int .i64 40] W fun e w' => e = .returned (.string ⟨#[48]⟩) ∧ Below W.heap.size W w') (cY : ∀ W, Calls Tryd.prog 20 #[.string b, .int .i64 40] W fun e w' => e = .returned (.string ⟨#[48]⟩) ∧ Below W.heap.size W w') (cZ : ∀ W, Calls Tryd.prog 20 #[.string c, .int .i64 40] W fun e w' => e = .returned (.string Z) ∧ Below W.heap.size W w') (hZ : Z = dec z) (mz : Bd z 40) (w : World) (ht : Tab w) :
    Calls Tryd.prog 7 #[.string a, .string b, .string c] w fun e w' => e = .returned (.bool true) ∧ Below w.heap.size w w' := by
  have fz := mz.fits (by decide)
  have f1 : fits 1 = true := bd_one.fits (by decide)
  have f0 : fits 0 = true := (bd_zero 1).fits (by decide)
  have c1 := fun W => cX W
  have c2 := fun W => cY W
  have c3 := fun W => cZ W
  have c4 := fun W (h : Tab W) => gcd_at l0 l0 l0 (by decide) f0 f0 f0 W h
  have c5 := fun W (h : Tab W) => gcd_at l0 l0 l0 (by decide) f0 f0 f0 W h
  have c6 := fun W => cmp_at l0 l0 (cmp_eq rfl) f0 f0 W
  have T := Lib.hid ht
  have C1 := Lib.hid c1; have C2 := Lib.hid c2; have C3 := Lib.hid c3; have C4 := Lib.hid c4; have C5 := Lib.hid c5; have C6 := Lib.hid c6
  clear c1 c2 c3 c4 c5 c6 ht cX cY cZ hZ mz fz f1 f0
  go_enter Tryd.func7, Tryd.ntmps7
  go_wp2_with (first
    | (go_at_call 11; (with_reducible refine (sane_any _ T.out).mono ?_); rintro e w1 ⟨rfl, b0⟩)
    | (go_at_call 20; (with_reducible refine (C1.out _).mono ?_); rintro e w2 ⟨rfl, b1⟩; have d1 := below_step b0 b1)
    | (go_at_call 20; (with_reducible refine (C2.out _).mono ?_); rintro e w3 ⟨rfl, b2⟩; have d2 := below_step d1 b2)
    | (go_at_call 20; (with_reducible refine (C3.out _).mono ?_); rintro e w4 ⟨rfl, b3⟩; have d3 := below_step d2 b3)
    | (go_at_call 21; (with_reducible refine (C4.out _ (T.out.below d3)).mono ?_); rintro e w5 ⟨rfl, b4⟩; have d4 := below_step d3 b4)
    | (go_at_call 21; (with_reducible refine (C5.out _ (T.out.below d4)).mono ?_); rintro e w6 ⟨rfl, b5⟩; have d5 := below_step d4 b5)
    | (go_at_call 17; (with_reducible refine (C6.out _).mono ?_); rintro e w7 ⟨rfl, b6⟩; have d6 := below_step d5 b6)
    | fail)
  go_ret
  exact ⟨rfl, d6⟩

set_option maxRecDepth 100000 in
set_option maxHeartbeats 8000000 in
theorem common_xp (a b c X Y Z : ByteArray) (x y z : Int) (cX : ∀ W, Calls Tryd.prog 20 #[.string a, .int .i64 40] W fun e w' => e = .returned (.string X) ∧ Below W.heap.size W w') (cY : ∀ W, Calls Tryd.prog 20 #[.string b, .int .i64 40] W fun e w' => e = .returned (.string Y) ∧ Below W.heap.size W w') (cZ : ∀ W, Calls Tryd.prog 20 #[.string c, .int .i64 40] W fun e w' => e = .returned (.string Z) ∧ Below W.heap.size W w') (hX : X = dec x) (mx : Bd x 40) (hY : Y = dec y) (my : Bd y 40) (hZ : Z = dec z) (mz : Bd z 40) (hxy0 : x ≠ 0) (hz0 : 0 ≤ z) (w : World) (ht : Tab w) :
    Calls Tryd.prog 7 #[.string a, .string b, .string c] w fun e w' => e = .returned (.bool true) ∧ Below w.heap.size w w' := by
  have fx := mx.fits (by decide)
  have fy := my.fits (by decide)
  have fz := mz.fits (by decide)
  have hXn0 : ¬ X = ⟨#[48]⟩ := by rw [hX, l0]; exact dec_ne hxy0
  have hXn : (X.toList == [48]) = false := ne_zero hXn0
  have f1 : fits 1 = true := bd_one.fits (by decide)
  have f0 : fits 0 = true := (bd_zero 1).fits (by decide)
  have hgp : 0 < Int.gcd x y := Int.gcd_pos_iff.2 (by omega)
  obtain ⟨g, hg⟩ : ∃ vv : Int, vv = (Int.gcd x y : Int) := ⟨_, rfl⟩
  obtain ⟨G, hG⟩ : ∃ vv, vv = dec g := ⟨_, rfl⟩
  have mg : Bd g 40 := by rw [hg]; exact gcd_bd mx my
  have fg := mg.fits (by decide)
  have hg0 : g ≠ 0 := by omega
  have hgx : g ∣ x := by rw [hg]; exact Int.gcd_dvd_left x y
  have hgy : g ∣ y := by rw [hg]; exact Int.gcd_dvd_right x y
  obtain ⟨p, hp⟩ : ∃ vv : Int, vv = x / g := ⟨_, rfl⟩
  obtain ⟨P, hP⟩ : ∃ vv, vv = dec p := ⟨_, rfl⟩
  have mp : Bd p 40 := by rw [hp]; exact ediv_bd mx
  have fp := mp.fits (by decide)
  obtain ⟨q, hq⟩ : ∃ vv : Int, vv = y / g := ⟨_, rfl⟩
  obtain ⟨Q, hQ⟩ : ∃ vv, vv = dec q := ⟨_, rfl⟩
  have mq : Bd q 40 := by rw [hq]; exact ediv_bd my
  have fq := mq.fits (by decide)
  obtain ⟨k, hk⟩ : ∃ vv : Int, vv = x * z := ⟨_, rfl⟩
  obtain ⟨K, hK⟩ : ∃ vv, vv = dec k := ⟨_, rfl⟩
  have mk : Bd k 80 := by rw [hk]; exact mx.mul mz
  have fk := mk.fits (by decide)
  obtain ⟨l, hl⟩ : ∃ vv : Int, vv = y * z := ⟨_, rfl⟩
  obtain ⟨L, hL⟩ : ∃ vv, vv = dec l := ⟨_, rfl⟩
  have ml : Bd l 80 := by rw [hl]; exact my.mul mz
  have fl := ml.fits (by decide)
  obtain ⟨u, hu⟩ : ∃ vv : Int, vv = g * z := ⟨_, rfl⟩
  obtain ⟨U, hU⟩ : ∃ vv, vv = dec u := ⟨_, rfl⟩
  have mu : Bd u 80 := by rw [hu]; exact mg.mul mz
  have fu := mu.fits (by decide)
  have hleft : (1 : Int) = (Int.gcd p q : Int) := by rw [hp, hq, hg]; exact gcd_left hgp
  obtain ⟨i, hi⟩ : ∃ vv : Int, vv = cmpI g 0 := ⟨_, rfl⟩
  have ia : (0 : Int) ≤ i := by rw [hi]; exact cmp_ge (by omega)
  have ib : ¬ i < 0 := by omega
  have ic : ¬ (0 : Int) > i := by omega
  have hu0 : 0 ≤ u := by rw [hu]; exact Int.mul_nonneg (by omega) hz0
  obtain ⟨j, hj⟩ : ∃ vv : Int, vv = cmpI u 0 := ⟨_, rfl⟩
  have ja : (0 : Int) ≤ j := by rw [hj]; exact cmp_ge hu0
  have jb : ¬ j < 0 := by omega
  have jc : ¬ (0 : Int) > j := by omega
  have hall : u = (Int.gcd k l : Int) := by rw [hk, hl, hu, hg, Int.gcd_mul_right]; exact gcd_abs_pos _ hz0
  have c1 := fun W => cX W
  have c2 := fun W => cY W
  have c3 := fun W => cZ W
  have c4 := fun W (h : Tab W) => gcd_at hX hY hG hg fx fy fg W h
  have c5 := fun W (h : Tab W) => gcd_at hY hX hG (by rw [hg, Int.gcd_comm]) fy fx fg W h
  have c6 := fun W => cmp_at hG l0 hi fg f0 W
  have c7 := fun W (h : Tab W) => div_at hX hG hP l0 hp (by rw [Int.emod_eq_zero_of_dvd hgx]) hg0 fx fg W h
  have c8 := fun W (h : Tab W) => div_at hY hG hQ l0 hq (by rw [Int.emod_eq_zero_of_dvd hgy]) hg0 fy fg W h
  have c9 := fun W (h : Tab W) => gcd_at hP hQ l1 hleft fp fq f1 W h
  have c10 := fun W (h : Tab W) => mul_at hX hZ hK hk fx fz fk W h
  have c11 := fun W (h : Tab W) => mul_at hY hZ hL hl fy fz fl W h
  have c12 := fun W (h : Tab W) => gcd_at hK hL hU hall fk fl fu W h
  have c13 := fun W (h : Tab W) => mul_at hG hZ hU hu fg fz fu W h
  have c14 := fun W => cmp_at hU l0 hj fu f0 W
  have T := Lib.hid ht
  have C1 := Lib.hid c1; have C2 := Lib.hid c2; have C3 := Lib.hid c3; have C4 := Lib.hid c4; have C5 := Lib.hid c5; have C6 := Lib.hid c6; have C7 := Lib.hid c7; have C8 := Lib.hid c8; have C9 := Lib.hid c9; have C10 := Lib.hid c10; have C11 := Lib.hid c11; have C12 := Lib.hid c12; have C13 := Lib.hid c13; have C14 := Lib.hid c14
  clear c1 c2 c3 c4 c5 c6 c7 c8 c9 c10 c11 c12 c13 c14 ht hgp hgx hgy hxy0 cX hX mx fx cY hY my fy cZ hZ mz fz hXn0 f1 f0 hg mg fg hG hg0 hp mp fp hP hq mq fq hQ hk mk fk hK hl ml fl hL hu mu fu hU hleft hall hz0 hi hj hu0
  go_enter Tryd.func7, Tryd.ntmps7
  go_wp2_with (first
    | (go_at_call 11; (with_reducible refine (sane_any _ T.out).mono ?_); rintro e w1 ⟨rfl, b0⟩)
    | (go_at_call 20; (with_reducible refine (C1.out _).mono ?_); rintro e w2 ⟨rfl, b1⟩; have d1 := below_step b0 b1)
    | (go_at_call 20; (with_reducible refine (C2.out _).mono ?_); rintro e w3 ⟨rfl, b2⟩; have d2 := below_step d1 b2)
    | (go_at_call 20; (with_reducible refine (C3.out _).mono ?_); rintro e w4 ⟨rfl, b3⟩; have d3 := below_step d2 b3)
    | (go_at_call 21; (with_reducible refine (C4.out _ (T.out.below d3)).mono ?_); rintro e w5 ⟨rfl, b4⟩; have d4 := below_step d3 b4)
    | (go_at_call 21; (with_reducible refine (C5.out _ (T.out.below d4)).mono ?_); rintro e w6 ⟨rfl, b5⟩; have d5 := below_step d4 b5)
    | (go_at_call 17; (with_reducible refine (C6.out _).mono ?_); rintro e w7 ⟨rfl, b6⟩; have d6 := below_step d5 b6)
    | (go_at_call 18; (with_reducible refine (C7.out _ (T.out.below d6)).mono ?_); rintro e w8 ⟨rfl, b7⟩; have d7 := below_step d6 b7)
    | (go_at_call 18; (with_reducible refine (C8.out _ (T.out.below d7)).mono ?_); rintro e w9 ⟨rfl, b8⟩; have d8 := below_step d7 b8)
    | (go_at_call 21; (with_reducible refine (C9.out _ (T.out.below d8)).mono ?_); rintro e w10 ⟨rfl, b9⟩; have d9 := below_step d8 b9)
    | (go_at_call 16; (with_reducible refine (C10.out _ (T.out.below d9)).mono ?_); rintro e w11 ⟨rfl, b10⟩; have d10 := below_step d9 b10)
    | (go_at_call 16; (with_reducible refine (C11.out _ (T.out.below d10)).mono ?_); rintro e w12 ⟨rfl, b11⟩; have d11 := below_step d10 b11)
    | (go_at_call 21; (with_reducible refine (C12.out _ (T.out.below d11)).mono ?_); rintro e w13 ⟨rfl, b12⟩; have d12 := below_step d11 b12)
    | (go_at_call 16; (with_reducible refine (C13.out _ (T.out.below d12)).mono ?_); rintro e w14 ⟨rfl, b13⟩; have d13 := below_step d12 b13)
    | (go_at_call 17; (with_reducible refine (C14.out _).mono ?_); rintro e w15 ⟨rfl, b14⟩; have d14 := below_step d13 b14)
    | fail)
  go_ret
  exact ⟨rfl, d14⟩

set_option maxRecDepth 100000 in
set_option maxHeartbeats 8000000 in
theorem common_xn (a b c X Y Z : ByteArray) (x y z : Int) (cX : ∀ W, Calls Tryd.prog 20 #[.string a, .int .i64 40] W fun e w' => e = .returned (.string X) ∧ Below W.heap.size W w') (cY : ∀ W, Calls Tryd.prog 20 #[.string b, .int .i64 40] W fun e w' => e = .returned (.string Y) ∧ Below W.heap.size W w') (cZ : ∀ W, Calls Tryd.prog 20 #[.string c, .int .i64 40] W fun e w' => e = .returned (.string Z) ∧ Below W.heap.size W w') (hX : X = dec x) (mx : Bd x 40) (hY : Y = dec y) (my : Bd y 40) (hZ : Z = dec z) (mz : Bd z 40) (hxy0 : x ≠ 0) (hz0 : z < 0) (w : World) (ht : Tab w) :
    Calls Tryd.prog 7 #[.string a, .string b, .string c] w fun e w' => e = .returned (.bool true) ∧ Below w.heap.size w w' := by
  have fx := mx.fits (by decide)
  have fy := my.fits (by decide)
  have fz := mz.fits (by decide)
  have hXn0 : ¬ X = ⟨#[48]⟩ := by rw [hX, l0]; exact dec_ne hxy0
  have hXn : (X.toList == [48]) = false := ne_zero hXn0
  have f1 : fits 1 = true := bd_one.fits (by decide)
  have f0 : fits 0 = true := (bd_zero 1).fits (by decide)
  have hgp : 0 < Int.gcd x y := Int.gcd_pos_iff.2 (by omega)
  obtain ⟨g, hg⟩ : ∃ vv : Int, vv = (Int.gcd x y : Int) := ⟨_, rfl⟩
  obtain ⟨G, hG⟩ : ∃ vv, vv = dec g := ⟨_, rfl⟩
  have mg : Bd g 40 := by rw [hg]; exact gcd_bd mx my
  have fg := mg.fits (by decide)
  have hg0 : g ≠ 0 := by omega
  have hgx : g ∣ x := by rw [hg]; exact Int.gcd_dvd_left x y
  have hgy : g ∣ y := by rw [hg]; exact Int.gcd_dvd_right x y
  obtain ⟨p, hp⟩ : ∃ vv : Int, vv = x / g := ⟨_, rfl⟩
  obtain ⟨P, hP⟩ : ∃ vv, vv = dec p := ⟨_, rfl⟩
  have mp : Bd p 40 := by rw [hp]; exact ediv_bd mx
  have fp := mp.fits (by decide)
  obtain ⟨q, hq⟩ : ∃ vv : Int, vv = y / g := ⟨_, rfl⟩
  obtain ⟨Q, hQ⟩ : ∃ vv, vv = dec q := ⟨_, rfl⟩
  have mq : Bd q 40 := by rw [hq]; exact ediv_bd my
  have fq := mq.fits (by decide)
  obtain ⟨k, hk⟩ : ∃ vv : Int, vv = x * z := ⟨_, rfl⟩
  obtain ⟨K, hK⟩ : ∃ vv, vv = dec k := ⟨_, rfl⟩
  have mk : Bd k 80 := by rw [hk]; exact mx.mul mz
  have fk := mk.fits (by decide)
  obtain ⟨l, hl⟩ : ∃ vv : Int, vv = y * z := ⟨_, rfl⟩
  obtain ⟨L, hL⟩ : ∃ vv, vv = dec l := ⟨_, rfl⟩
  have ml : Bd l 80 := by rw [hl]; exact my.mul mz
  have fl := ml.fits (by decide)
  obtain ⟨u, hu⟩ : ∃ vv : Int, vv = g * z := ⟨_, rfl⟩
  obtain ⟨U, hU⟩ : ∃ vv, vv = dec u := ⟨_, rfl⟩
  have mu : Bd u 80 := by rw [hu]; exact mg.mul mz
  have fu := mu.fits (by decide)
  have hleft : (1 : Int) = (Int.gcd p q : Int) := by rw [hp, hq, hg]; exact gcd_left hgp
  obtain ⟨i, hi⟩ : ∃ vv : Int, vv = cmpI g 0 := ⟨_, rfl⟩
  have ia : (0 : Int) ≤ i := by rw [hi]; exact cmp_ge (by omega)
  have ib : ¬ i < 0 := by omega
  have ic : ¬ (0 : Int) > i := by omega
  have hu0 : u < 0 := by rw [hu]; exact Int.mul_neg_of_pos_of_neg (by omega) hz0
  obtain ⟨s, hs⟩ : ∃ vv : Int, vv = 0 - u := ⟨_, rfl⟩
  obtain ⟨S, hS⟩ : ∃ vv, vv = dec s := ⟨_, rfl⟩
  have ms : Bd s 81 := by rw [hs]; exact ((bd_zero 80).sub mu)
  have fs := ms.fits (by decide)
  have hall : s = (Int.gcd k l : Int) := by rw [hs, hk, hl, hu, hg, Int.gcd_mul_right]; exact gcd_abs_neg _ hz0
  have c1 := fun W => cX W
  have c2 := fun W => cY W
  have c3 := fun W => cZ W
  have c4 := fun W (h : Tab W) => gcd_at hX hY hG hg fx fy fg W h
  have c5 := fun W (h : Tab W) => gcd_at hY hX hG (by rw [hg, Int.gcd_comm]) fy fx fg W h
  have c6 := fun W => cmp_at hG l0 hi fg f0 W
  have c7 := fun W (h : Tab W) => div_at hX hG hP l0 hp (by rw [Int.emod_eq_zero_of_dvd hgx]) hg0 fx fg W h
  have c8 := fun W (h : Tab W) => div_at hY hG hQ l0 hq (by rw [Int.emod_eq_zero_of_dvd hgy]) hg0 fy fg W h
  have c9 := fun W (h : Tab W) => gcd_at hP hQ l1 hleft fp fq f1 W h
  have c10 := fun W (h : Tab W) => mul_at hX hZ hK hk fx fz fk W h
  have c11 := fun W (h : Tab W) => mul_at hY hZ hL hl fy fz fl W h
  have c12 := fun W (h : Tab W) => gcd_at hK hL hS hall fk fl fs W h
  have c13 := fun W (h : Tab W) => mul_at hG hZ hU hu fg fz fu W h
  have c14 := fun W => cmp_at hU l0 (cmp_lt hu0) fu f0 W
  have c15 := fun W (h : Tab W) => sub_at l0 hU hS hs f0 fu fs W h
  have T := Lib.hid ht
  have C1 := Lib.hid c1; have C2 := Lib.hid c2; have C3 := Lib.hid c3; have C4 := Lib.hid c4; have C5 := Lib.hid c5; have C6 := Lib.hid c6; have C7 := Lib.hid c7; have C8 := Lib.hid c8; have C9 := Lib.hid c9; have C10 := Lib.hid c10; have C11 := Lib.hid c11; have C12 := Lib.hid c12; have C13 := Lib.hid c13; have C14 := Lib.hid c14; have C15 := Lib.hid c15
  clear c1 c2 c3 c4 c5 c6 c7 c8 c9 c10 c11 c12 c13 c14 c15 ht hgp hgx hgy hxy0 cX hX mx fx cY hY my fy cZ hZ mz fz hXn0 f1 f0 hg mg fg hG hg0 hp mp fp hP hq mq fq hQ hk mk fk hK hl ml fl hL hu mu fu hU hleft hall hz0 hi hu0 hs ms fs hS
  go_enter Tryd.func7, Tryd.ntmps7
  go_wp2_with (first
    | (go_at_call 11; (with_reducible refine (sane_any _ T.out).mono ?_); rintro e w1 ⟨rfl, b0⟩)
    | (go_at_call 20; (with_reducible refine (C1.out _).mono ?_); rintro e w2 ⟨rfl, b1⟩; have d1 := below_step b0 b1)
    | (go_at_call 20; (with_reducible refine (C2.out _).mono ?_); rintro e w3 ⟨rfl, b2⟩; have d2 := below_step d1 b2)
    | (go_at_call 20; (with_reducible refine (C3.out _).mono ?_); rintro e w4 ⟨rfl, b3⟩; have d3 := below_step d2 b3)
    | (go_at_call 21; (with_reducible refine (C4.out _ (T.out.below d3)).mono ?_); rintro e w5 ⟨rfl, b4⟩; have d4 := below_step d3 b4)
    | (go_at_call 21; (with_reducible refine (C5.out _ (T.out.below d4)).mono ?_); rintro e w6 ⟨rfl, b5⟩; have d5 := below_step d4 b5)
    | (go_at_call 17; (with_reducible refine (C6.out _).mono ?_); rintro e w7 ⟨rfl, b6⟩; have d6 := below_step d5 b6)
    | (go_at_call 18; (with_reducible refine (C7.out _ (T.out.below d6)).mono ?_); rintro e w8 ⟨rfl, b7⟩; have d7 := below_step d6 b7)
    | (go_at_call 18; (with_reducible refine (C8.out _ (T.out.below d7)).mono ?_); rintro e w9 ⟨rfl, b8⟩; have d8 := below_step d7 b8)
    | (go_at_call 21; (with_reducible refine (C9.out _ (T.out.below d8)).mono ?_); rintro e w10 ⟨rfl, b9⟩; have d9 := below_step d8 b9)
    | (go_at_call 16; (with_reducible refine (C10.out _ (T.out.below d9)).mono ?_); rintro e w11 ⟨rfl, b10⟩; have d10 := below_step d9 b10)
    | (go_at_call 16; (with_reducible refine (C11.out _ (T.out.below d10)).mono ?_); rintro e w12 ⟨rfl, b11⟩; have d11 := below_step d10 b11)
    | (go_at_call 21; (with_reducible refine (C12.out _ (T.out.below d11)).mono ?_); rintro e w13 ⟨rfl, b12⟩; have d12 := below_step d11 b12)
    | (go_at_call 16; (with_reducible refine (C13.out _ (T.out.below d12)).mono ?_); rintro e w14 ⟨rfl, b13⟩; have d13 := below_step d12 b13)
    | (go_at_call 17; (with_reducible refine (C14.out _).mono ?_); rintro e w15 ⟨rfl, b14⟩; have d14 := below_step d13 b14)
    | (go_at_call 15; (with_reducible refine (C15.out _ (T.out.below d14)).mono ?_); rintro e w16 ⟨rfl, b15⟩; have d15 := below_step d14 b15)
    | fail)
  go_ret
  exact ⟨rfl, d15⟩

set_option maxRecDepth 100000 in
set_option maxHeartbeats 8000000 in
theorem common_yp (a b c Y Z : ByteArray) (x y z : Int) (cX : ∀ W, Calls Tryd.prog 20 #[.string a, .int .i64 40] W fun e w' => e = .returned (.string ⟨#[48]⟩) ∧ Below W.heap.size W w') (cY : ∀ W, Calls Tryd.prog 20 #[.string b, .int .i64 40] W fun e w' => e = .returned (.string Y) ∧ Below W.heap.size W w') (cZ : ∀ W, Calls Tryd.prog 20 #[.string c, .int .i64 40] W fun e w' => e = .returned (.string Z) ∧ Below W.heap.size W w') (hY : Y = dec y) (my : Bd y 40) (hZ : Z = dec z) (mz : Bd z 40) (hx1 : x = 0) (hxy0 : y ≠ 0) (hz0 : 0 ≤ z) (w : World) (ht : Tab w) :
    Calls Tryd.prog 7 #[.string a, .string b, .string c] w fun e w' => e = .returned (.bool true) ∧ Below w.heap.size w w' := by
  have hX : (⟨#[48]⟩ : ByteArray) = dec x := by rw [hx1]; exact l0
  have mx : Bd x 40 := by rw [hx1]; exact bd_zero 40
  have fx := mx.fits (by decide)
  have fy := my.fits (by decide)
  have fz := mz.fits (by decide)
  have hYn0 : ¬ Y = ⟨#[48]⟩ := by rw [hY, l0]; exact dec_ne hxy0
  have hYn : (Y.toList == [48]) = false := ne_zero hYn0
  have f1 : fits 1 = true := bd_one.fits (by decide)
  have f0 : fits 0 = true := (bd_zero 1).fits (by decide)
  have hgp : 0 < Int.gcd x y := Int.gcd_pos_iff.2 (by omega)
  obtain ⟨g, hg⟩ : ∃ vv : Int, vv = (Int.gcd x y : Int) := ⟨_, rfl⟩
  obtain ⟨G, hG⟩ : ∃ vv, vv = dec g := ⟨_, rfl⟩
  have mg : Bd g 40 := by rw [hg]; exact gcd_bd mx my
  have fg := mg.fits (by decide)
  have hg0 : g ≠ 0 := by omega
  have hgx : g ∣ x := by rw [hg]; exact Int.gcd_dvd_left x y
  have hgy : g ∣ y := by rw [hg]; exact Int.gcd_dvd_right x y
  obtain ⟨p, hp⟩ : ∃ vv : Int, vv = x / g := ⟨_, rfl⟩
  obtain ⟨P, hP⟩ : ∃ vv, vv = dec p := ⟨_, rfl⟩
  have mp : Bd p 40 := by rw [hp]; exact ediv_bd mx
  have fp := mp.fits (by decide)
  obtain ⟨q, hq⟩ : ∃ vv : Int, vv = y / g := ⟨_, rfl⟩
  obtain ⟨Q, hQ⟩ : ∃ vv, vv = dec q := ⟨_, rfl⟩
  have mq : Bd q 40 := by rw [hq]; exact ediv_bd my
  have fq := mq.fits (by decide)
  obtain ⟨k, hk⟩ : ∃ vv : Int, vv = x * z := ⟨_, rfl⟩
  obtain ⟨K, hK⟩ : ∃ vv, vv = dec k := ⟨_, rfl⟩
  have mk : Bd k 80 := by rw [hk]; exact mx.mul mz
  have fk := mk.fits (by decide)
  obtain ⟨l, hl⟩ : ∃ vv : Int, vv = y * z := ⟨_, rfl⟩
  obtain ⟨L, hL⟩ : ∃ vv, vv = dec l := ⟨_, rfl⟩
  have ml : Bd l 80 := by rw [hl]; exact my.mul mz
  have fl := ml.fits (by decide)
  obtain ⟨u, hu⟩ : ∃ vv : Int, vv = g * z := ⟨_, rfl⟩
  obtain ⟨U, hU⟩ : ∃ vv, vv = dec u := ⟨_, rfl⟩
  have mu : Bd u 80 := by rw [hu]; exact mg.mul mz
  have fu := mu.fits (by decide)
  have hleft : (1 : Int) = (Int.gcd p q : Int) := by rw [hp, hq, hg]; exact gcd_left hgp
  obtain ⟨i, hi⟩ : ∃ vv : Int, vv = cmpI g 0 := ⟨_, rfl⟩
  have ia : (0 : Int) ≤ i := by rw [hi]; exact cmp_ge (by omega)
  have ib : ¬ i < 0 := by omega
  have ic : ¬ (0 : Int) > i := by omega
  have hu0 : 0 ≤ u := by rw [hu]; exact Int.mul_nonneg (by omega) hz0
  obtain ⟨j, hj⟩ : ∃ vv : Int, vv = cmpI u 0 := ⟨_, rfl⟩
  have ja : (0 : Int) ≤ j := by rw [hj]; exact cmp_ge hu0
  have jb : ¬ j < 0 := by omega
  have jc : ¬ (0 : Int) > j := by omega
  have hall : u = (Int.gcd k l : Int) := by rw [hk, hl, hu, hg, Int.gcd_mul_right]; exact gcd_abs_pos _ hz0
  have c1 := fun W => cX W
  have c2 := fun W => cY W
  have c3 := fun W => cZ W
  have c4 := fun W (h : Tab W) => gcd_at hX hY hG hg fx fy fg W h
  have c5 := fun W (h : Tab W) => gcd_at hY hX hG (by rw [hg, Int.gcd_comm]) fy fx fg W h
  have c6 := fun W => cmp_at hG l0 hi fg f0 W
  have c7 := fun W (h : Tab W) => div_at hX hG hP l0 hp (by rw [Int.emod_eq_zero_of_dvd hgx]) hg0 fx fg W h
  have c8 := fun W (h : Tab W) => div_at hY hG hQ l0 hq (by rw [Int.emod_eq_zero_of_dvd hgy]) hg0 fy fg W h
  have c9 := fun W (h : Tab W) => gcd_at hP hQ l1 hleft fp fq f1 W h
  have c10 := fun W (h : Tab W) => mul_at hX hZ hK hk fx fz fk W h
  have c11 := fun W (h : Tab W) => mul_at hY hZ hL hl fy fz fl W h
  have c12 := fun W (h : Tab W) => gcd_at hK hL hU hall fk fl fu W h
  have c13 := fun W (h : Tab W) => mul_at hG hZ hU hu fg fz fu W h
  have c14 := fun W => cmp_at hU l0 hj fu f0 W
  have T := Lib.hid ht
  have C1 := Lib.hid c1; have C2 := Lib.hid c2; have C3 := Lib.hid c3; have C4 := Lib.hid c4; have C5 := Lib.hid c5; have C6 := Lib.hid c6; have C7 := Lib.hid c7; have C8 := Lib.hid c8; have C9 := Lib.hid c9; have C10 := Lib.hid c10; have C11 := Lib.hid c11; have C12 := Lib.hid c12; have C13 := Lib.hid c13; have C14 := Lib.hid c14
  clear c1 c2 c3 c4 c5 c6 c7 c8 c9 c10 c11 c12 c13 c14 ht hgp hgx hgy hxy0 cX hX mx fx hx1 cY hY my fy cZ hZ mz fz hYn0 f1 f0 hg mg fg hG hg0 hp mp fp hP hq mq fq hQ hk mk fk hK hl ml fl hL hu mu fu hU hleft hall hz0 hi hj hu0
  go_enter Tryd.func7, Tryd.ntmps7
  go_wp2_with (first
    | (go_at_call 11; (with_reducible refine (sane_any _ T.out).mono ?_); rintro e w1 ⟨rfl, b0⟩)
    | (go_at_call 20; (with_reducible refine (C1.out _).mono ?_); rintro e w2 ⟨rfl, b1⟩; have d1 := below_step b0 b1)
    | (go_at_call 20; (with_reducible refine (C2.out _).mono ?_); rintro e w3 ⟨rfl, b2⟩; have d2 := below_step d1 b2)
    | (go_at_call 20; (with_reducible refine (C3.out _).mono ?_); rintro e w4 ⟨rfl, b3⟩; have d3 := below_step d2 b3)
    | (go_at_call 21; (with_reducible refine (C4.out _ (T.out.below d3)).mono ?_); rintro e w5 ⟨rfl, b4⟩; have d4 := below_step d3 b4)
    | (go_at_call 21; (with_reducible refine (C5.out _ (T.out.below d4)).mono ?_); rintro e w6 ⟨rfl, b5⟩; have d5 := below_step d4 b5)
    | (go_at_call 17; (with_reducible refine (C6.out _).mono ?_); rintro e w7 ⟨rfl, b6⟩; have d6 := below_step d5 b6)
    | (go_at_call 18; (with_reducible refine (C7.out _ (T.out.below d6)).mono ?_); rintro e w8 ⟨rfl, b7⟩; have d7 := below_step d6 b7)
    | (go_at_call 18; (with_reducible refine (C8.out _ (T.out.below d7)).mono ?_); rintro e w9 ⟨rfl, b8⟩; have d8 := below_step d7 b8)
    | (go_at_call 21; (with_reducible refine (C9.out _ (T.out.below d8)).mono ?_); rintro e w10 ⟨rfl, b9⟩; have d9 := below_step d8 b9)
    | (go_at_call 16; (with_reducible refine (C10.out _ (T.out.below d9)).mono ?_); rintro e w11 ⟨rfl, b10⟩; have d10 := below_step d9 b10)
    | (go_at_call 16; (with_reducible refine (C11.out _ (T.out.below d10)).mono ?_); rintro e w12 ⟨rfl, b11⟩; have d11 := below_step d10 b11)
    | (go_at_call 21; (with_reducible refine (C12.out _ (T.out.below d11)).mono ?_); rintro e w13 ⟨rfl, b12⟩; have d12 := below_step d11 b12)
    | (go_at_call 16; (with_reducible refine (C13.out _ (T.out.below d12)).mono ?_); rintro e w14 ⟨rfl, b13⟩; have d13 := below_step d12 b13)
    | (go_at_call 17; (with_reducible refine (C14.out _).mono ?_); rintro e w15 ⟨rfl, b14⟩; have d14 := below_step d13 b14)
    | fail)
  go_ret
  exact ⟨rfl, d14⟩

set_option maxRecDepth 100000 in
set_option maxHeartbeats 8000000 in
theorem common_yn (a b c Y Z : ByteArray) (x y z : Int) (cX : ∀ W, Calls Tryd.prog 20 #[.string a, .int .i64 40] W fun e w' => e = .returned (.string ⟨#[48]⟩) ∧ Below W.heap.size W w') (cY : ∀ W, Calls Tryd.prog 20 #[.string b, .int .i64 40] W fun e w' => e = .returned (.string Y) ∧ Below W.heap.size W w') (cZ : ∀ W, Calls Tryd.prog 20 #[.string c, .int .i64 40] W fun e w' => e = .returned (.string Z) ∧ Below W.heap.size W w') (hY : Y = dec y) (my : Bd y 40) (hZ : Z = dec z) (mz : Bd z 40) (hx1 : x = 0) (hxy0 : y ≠ 0) (hz0 : z < 0) (w : World) (ht : Tab w) :
    Calls Tryd.prog 7 #[.string a, .string b, .string c] w fun e w' => e = .returned (.bool true) ∧ Below w.heap.size w w' := by
  have hX : (⟨#[48]⟩ : ByteArray) = dec x := by rw [hx1]; exact l0
  have mx : Bd x 40 := by rw [hx1]; exact bd_zero 40
  have fx := mx.fits (by decide)
  have fy := my.fits (by decide)
  have fz := mz.fits (by decide)
  have hYn0 : ¬ Y = ⟨#[48]⟩ := by rw [hY, l0]; exact dec_ne hxy0
  have hYn : (Y.toList == [48]) = false := ne_zero hYn0
  have f1 : fits 1 = true := bd_one.fits (by decide)
  have f0 : fits 0 = true := (bd_zero 1).fits (by decide)
  have hgp : 0 < Int.gcd x y := Int.gcd_pos_iff.2 (by omega)
  obtain ⟨g, hg⟩ : ∃ vv : Int, vv = (Int.gcd x y : Int) := ⟨_, rfl⟩
  obtain ⟨G, hG⟩ : ∃ vv, vv = dec g := ⟨_, rfl⟩
  have mg : Bd g 40 := by rw [hg]; exact gcd_bd mx my
  have fg := mg.fits (by decide)
  have hg0 : g ≠ 0 := by omega
  have hgx : g ∣ x := by rw [hg]; exact Int.gcd_dvd_left x y
  have hgy : g ∣ y := by rw [hg]; exact Int.gcd_dvd_right x y
  obtain ⟨p, hp⟩ : ∃ vv : Int, vv = x / g := ⟨_, rfl⟩
  obtain ⟨P, hP⟩ : ∃ vv, vv = dec p := ⟨_, rfl⟩
  have mp : Bd p 40 := by rw [hp]; exact ediv_bd mx
  have fp := mp.fits (by decide)
  obtain ⟨q, hq⟩ : ∃ vv : Int, vv = y / g := ⟨_, rfl⟩
  obtain ⟨Q, hQ⟩ : ∃ vv, vv = dec q := ⟨_, rfl⟩
  have mq : Bd q 40 := by rw [hq]; exact ediv_bd my
  have fq := mq.fits (by decide)
  obtain ⟨k, hk⟩ : ∃ vv : Int, vv = x * z := ⟨_, rfl⟩
  obtain ⟨K, hK⟩ : ∃ vv, vv = dec k := ⟨_, rfl⟩
  have mk : Bd k 80 := by rw [hk]; exact mx.mul mz
  have fk := mk.fits (by decide)
  obtain ⟨l, hl⟩ : ∃ vv : Int, vv = y * z := ⟨_, rfl⟩
  obtain ⟨L, hL⟩ : ∃ vv, vv = dec l := ⟨_, rfl⟩
  have ml : Bd l 80 := by rw [hl]; exact my.mul mz
  have fl := ml.fits (by decide)
  obtain ⟨u, hu⟩ : ∃ vv : Int, vv = g * z := ⟨_, rfl⟩
  obtain ⟨U, hU⟩ : ∃ vv, vv = dec u := ⟨_, rfl⟩
  have mu : Bd u 80 := by rw [hu]; exact mg.mul mz
  have fu := mu.fits (by decide)
  have hleft : (1 : Int) = (Int.gcd p q : Int) := by rw [hp, hq, hg]; exact gcd_left hgp
  obtain ⟨i, hi⟩ : ∃ vv : Int, vv = cmpI g 0 := ⟨_, rfl⟩
  have ia : (0 : Int) ≤ i := by rw [hi]; exact cmp_ge (by omega)
  have ib : ¬ i < 0 := by omega
  have ic : ¬ (0 : Int) > i := by omega
  have hu0 : u < 0 := by rw [hu]; exact Int.mul_neg_of_pos_of_neg (by omega) hz0
  obtain ⟨s, hs⟩ : ∃ vv : Int, vv = 0 - u := ⟨_, rfl⟩
  obtain ⟨S, hS⟩ : ∃ vv, vv = dec s := ⟨_, rfl⟩
  have ms : Bd s 81 := by rw [hs]; exact ((bd_zero 80).sub mu)
  have fs := ms.fits (by decide)
  have hall : s = (Int.gcd k l : Int) := by rw [hs, hk, hl, hu, hg, Int.gcd_mul_right]; exact gcd_abs_neg _ hz0
  have c1 := fun W => cX W
  have c2 := fun W => cY W
  have c3 := fun W => cZ W
  have c4 := fun W (h : Tab W) => gcd_at hX hY hG hg fx fy fg W h
  have c5 := fun W (h : Tab W) => gcd_at hY hX hG (by rw [hg, Int.gcd_comm]) fy fx fg W h
  have c6 := fun W => cmp_at hG l0 hi fg f0 W
  have c7 := fun W (h : Tab W) => div_at hX hG hP l0 hp (by rw [Int.emod_eq_zero_of_dvd hgx]) hg0 fx fg W h
  have c8 := fun W (h : Tab W) => div_at hY hG hQ l0 hq (by rw [Int.emod_eq_zero_of_dvd hgy]) hg0 fy fg W h
  have c9 := fun W (h : Tab W) => gcd_at hP hQ l1 hleft fp fq f1 W h
  have c10 := fun W (h : Tab W) => mul_at hX hZ hK hk fx fz fk W h
  have c11 := fun W (h : Tab W) => mul_at hY hZ hL hl fy fz fl W h
  have c12 := fun W (h : Tab W) => gcd_at hK hL hS hall fk fl fs W h
  have c13 := fun W (h : Tab W) => mul_at hG hZ hU hu fg fz fu W h
  have c14 := fun W => cmp_at hU l0 (cmp_lt hu0) fu f0 W
  have c15 := fun W (h : Tab W) => sub_at l0 hU hS hs f0 fu fs W h
  have T := Lib.hid ht
  have C1 := Lib.hid c1; have C2 := Lib.hid c2; have C3 := Lib.hid c3; have C4 := Lib.hid c4; have C5 := Lib.hid c5; have C6 := Lib.hid c6; have C7 := Lib.hid c7; have C8 := Lib.hid c8; have C9 := Lib.hid c9; have C10 := Lib.hid c10; have C11 := Lib.hid c11; have C12 := Lib.hid c12; have C13 := Lib.hid c13; have C14 := Lib.hid c14; have C15 := Lib.hid c15
  clear c1 c2 c3 c4 c5 c6 c7 c8 c9 c10 c11 c12 c13 c14 c15 ht hgp hgx hgy hxy0 cX hX mx fx hx1 cY hY my fy cZ hZ mz fz hYn0 f1 f0 hg mg fg hG hg0 hp mp fp hP hq mq fq hQ hk mk fk hK hl ml fl hL hu mu fu hU hleft hall hz0 hi hu0 hs ms fs hS
  go_enter Tryd.func7, Tryd.ntmps7
  go_wp2_with (first
    | (go_at_call 11; (with_reducible refine (sane_any _ T.out).mono ?_); rintro e w1 ⟨rfl, b0⟩)
    | (go_at_call 20; (with_reducible refine (C1.out _).mono ?_); rintro e w2 ⟨rfl, b1⟩; have d1 := below_step b0 b1)
    | (go_at_call 20; (with_reducible refine (C2.out _).mono ?_); rintro e w3 ⟨rfl, b2⟩; have d2 := below_step d1 b2)
    | (go_at_call 20; (with_reducible refine (C3.out _).mono ?_); rintro e w4 ⟨rfl, b3⟩; have d3 := below_step d2 b3)
    | (go_at_call 21; (with_reducible refine (C4.out _ (T.out.below d3)).mono ?_); rintro e w5 ⟨rfl, b4⟩; have d4 := below_step d3 b4)
    | (go_at_call 21; (with_reducible refine (C5.out _ (T.out.below d4)).mono ?_); rintro e w6 ⟨rfl, b5⟩; have d5 := below_step d4 b5)
    | (go_at_call 17; (with_reducible refine (C6.out _).mono ?_); rintro e w7 ⟨rfl, b6⟩; have d6 := below_step d5 b6)
    | (go_at_call 18; (with_reducible refine (C7.out _ (T.out.below d6)).mono ?_); rintro e w8 ⟨rfl, b7⟩; have d7 := below_step d6 b7)
    | (go_at_call 18; (with_reducible refine (C8.out _ (T.out.below d7)).mono ?_); rintro e w9 ⟨rfl, b8⟩; have d8 := below_step d7 b8)
    | (go_at_call 21; (with_reducible refine (C9.out _ (T.out.below d8)).mono ?_); rintro e w10 ⟨rfl, b9⟩; have d9 := below_step d8 b9)
    | (go_at_call 16; (with_reducible refine (C10.out _ (T.out.below d9)).mono ?_); rintro e w11 ⟨rfl, b10⟩; have d10 := below_step d9 b10)
    | (go_at_call 16; (with_reducible refine (C11.out _ (T.out.below d10)).mono ?_); rintro e w12 ⟨rfl, b11⟩; have d11 := below_step d10 b11)
    | (go_at_call 21; (with_reducible refine (C12.out _ (T.out.below d11)).mono ?_); rintro e w13 ⟨rfl, b12⟩; have d12 := below_step d11 b12)
    | (go_at_call 16; (with_reducible refine (C13.out _ (T.out.below d12)).mono ?_); rintro e w14 ⟨rfl, b13⟩; have d13 := below_step d12 b13)
    | (go_at_call 17; (with_reducible refine (C14.out _).mono ?_); rintro e w15 ⟨rfl, b14⟩; have d14 := below_step d13 b14)
    | (go_at_call 15; (with_reducible refine (C15.out _ (T.out.below d14)).mono ?_); rintro e w16 ⟨rfl, b15⟩; have d15 := below_step d14 b15)
    | fail)
  go_ret
  exact ⟨rfl, d15⟩

theorem common_walk (a b c : ByteArray) (w : World) (ht : Tab w) :
    Calls Tryd.prog 7 #[.string a, .string b, .string c] w fun e w' => e = .returned (.bool true) ∧ Below w.heap.size w w' := by
  by_cases h0 : madeZ a 40 = 0
  · by_cases h1 : madeZ b 40 = 0
    · exact common_zero a b c _ _ (made_at (by rw [h0]; exact l0) rfl (by decide)) (made_at (by rw [h1]; exact l0) rfl (by decide)) (made_at rfl rfl (by decide)) rfl (made_bd c 40) w ht
    · rcases Int.lt_or_le (madeZ c 40) 0 with h | h
      · exact common_yn a b c _ _ _ _ _ (made_at (by rw [h0]; exact l0) rfl (by decide)) (made_at rfl rfl (by decide)) (made_at rfl rfl (by decide)) rfl (made_bd b 40) rfl (made_bd c 40) h0 h1 h w ht
      · exact common_yp a b c _ _ _ _ _ (made_at (by rw [h0]; exact l0) rfl (by decide)) (made_at rfl rfl (by decide)) (made_at rfl rfl (by decide)) rfl (made_bd b 40) rfl (made_bd c 40) h0 h1 h w ht
  · rcases Int.lt_or_le (madeZ c 40) 0 with h | h
    · exact common_xn a b c _ _ _ _ _ _ (made_at rfl rfl (by decide)) (made_at rfl rfl (by decide)) (made_at rfl rfl (by decide)) rfl (made_bd a 40) rfl (made_bd b 40) rfl (made_bd c 40) h0 h w ht
    · exact common_xp a b c _ _ _ _ _ _ (made_at rfl rfl (by decide)) (made_at rfl rfl (by decide)) (made_at rfl rfl (by decide)) rfl (made_bd a 40) rfl (made_bd b 40) rfl (made_bd c 40) h0 h w ht
end Go.Proofs.YtnehkoedmcnjoaaDoor
