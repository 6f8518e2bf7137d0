/- The walk of IntegerDivided. -/
import Derived.Test.YtnehkoedmcnjoaaDoorBd
namespace Go.Proofs.YtnehkoedmcnjoaaDoor
open Go.RowKit

set_option maxRecDepth 100000 in
set_option maxHeartbeats 8000000 in
theorem divided_zero (a b X : ByteArray) (x : Int) (cX : ∀ W, Calls Tryd.prog 20 #[.string a, .int .i64 90] W fun e w' => e = .returned (.string X) ∧ Below W.heap.size W w') (hX : X = dec x) (mx : Bd x 90) (hY0 : (⟨#[48]⟩ : ByteArray) = dec 0) (cY : ∀ W, Calls Tryd.prog 20 #[.string b, .int .i64 60] W fun e w' => e = .returned (.string ⟨#[48]⟩) ∧ Below W.heap.size W w') (w : World) (ht : Tab w) :
    Calls Tryd.prog 6 #[.string a, .string b] w fun e w' => e = .returned (.bool true) ∧ Below w.heap.size w w' := by
  have fx := mx.fits (by decide)
  have c1 := fun W => cX W
  have c2 := fun W => cY W
  have c3 := fun W (h : Tab W) => div_zero' hX hY0 W h
  have T := Lib.hid ht
  have C1 := Lib.hid c1; have C2 := Lib.hid c2; have C3 := Lib.hid c3
  clear c1 c2 c3 ht cX hX mx fx cY hY0
  go_enter Tryd.func6, Tryd.ntmps6
  go_wp2_with (first
    | (go_at_call 11; (with_reducible refine (sane_any _ T.out).mono ?_); rintro e w1 ⟨rfl, b0⟩)
    | (go_at_call 20; (with_reducible refine (C1.out _).mono ?_); rintro e w2 ⟨rfl, b1⟩; have d1 := below_step b0 b1)
    | (go_at_call 20; (with_reducible refine (C2.out _).mono ?_); rintro e w3 ⟨rfl, b2⟩; have d2 := below_step d1 b2)
    | (go_at_call 18; (with_reducible refine (C3.out _ (T.out.below d2)).mono ?_); rintro e w4 ⟨rfl, b3⟩; have d3 := below_step d2 b3)
    | fail)
  go_ret
  exact ⟨rfl, d3⟩

set_option maxRecDepth 100000 in
set_option maxHeartbeats 8000000 in
theorem divided_pos (a b X Y : ByteArray) (x y : Int) (cX : ∀ W, Calls Tryd.prog 20 #[.string a, .int .i64 90] W fun e w' => e = .returned (.string X) ∧ Below W.heap.size W w') (cY : ∀ W, Calls Tryd.prog 20 #[.string b, .int .i64 60] W fun e w' => e = .returned (.string Y) ∧ Below W.heap.size W w') (hX : X = dec x) (mx : Bd x 90) (hY : Y = dec y) (my : Bd y 60) (hy0 : 0 < y) (w : World) (ht : Tab w) :
    Calls Tryd.prog 6 #[.string a, .string b] w fun e w' => e = .returned (.bool true) ∧ Below w.heap.size w w' := by
  have fx := mx.fits (by decide)
  have fy := my.fits (by decide)
  have f1 : fits 1 = true := bd_one.fits (by decide)
  have f0 : fits 0 = true := (bd_zero 1).fits (by decide)
  have hy : y ≠ 0 := by omega
  have hYn0 : ¬ Y = ⟨#[48]⟩ := by rw [hY, l0]; exact dec_ne hy
  have hYn : (Y.toList == [48]) = false := ne_zero hYn0
  obtain ⟨q, hq⟩ : ∃ vv : Int, vv = x / y := ⟨_, rfl⟩
  obtain ⟨Q, hQ⟩ : ∃ vv, vv = dec q := ⟨_, rfl⟩
  have mq : Bd q 90 := by rw [hq]; exact ediv_bd mx
  have fq := mq.fits (by decide)
  obtain ⟨r, hr⟩ : ∃ vv : Int, vv = x % y := ⟨_, rfl⟩
  obtain ⟨R, hR⟩ : ∃ vv, vv = dec r := ⟨_, rfl⟩
  have mr : Bd r 60 := by rw [hr]; exact emod_bd my hy
  have fr := mr.fits (by decide)
  obtain ⟨p, hp⟩ : ∃ vv : Int, vv = q * y := ⟨_, rfl⟩
  obtain ⟨P, hP⟩ : ∃ vv, vv = dec p := ⟨_, rfl⟩
  have mp : Bd p 150 := by rw [hp]; exact mq.mul my
  have fp := mp.fits (by decide)
  obtain ⟨d, hd⟩ : ∃ vv : Int, vv = x * y := ⟨_, rfl⟩
  obtain ⟨D, hD⟩ : ∃ vv, vv = dec d := ⟨_, rfl⟩
  have md : Bd d 150 := by rw [hd]; exact mx.mul my
  have fd := md.fits (by decide)
  obtain ⟨k, hk⟩ : ∃ vv : Int, vv = cmpI r 0 := ⟨_, rfl⟩
  have ka : (0 : Int) ≤ k := by rw [hk]; exact cmp_ge (by rw [hr]; exact Int.emod_nonneg x hy)
  have kb : ¬ k < 0 := by omega
  have kc : ¬ (0 : Int) > k := by omega
  have hlt : r < y := by rw [hr]; have := Int.emod_lt x hy; omega
  have c1 := fun W => cX W
  have c2 := fun W => cY W
  have c3 := fun W (h : Tab W) => div_at hX hY hQ hR hq hr hy fx fy W h
  have c4 := fun W (h : Tab W) => mul_at hQ hY hP hp fq fy fp W h
  have c5 := fun W (h : Tab W) => add_at hP hR hX (by rw [hp, hq, hr, Int.mul_comm, Int.mul_ediv_add_emod]) fp fr fx W h
  have c6 := fun W (h : Tab W) => mul_at hY l1 hY (by rw [Int.mul_one]) fy f1 fy W h
  have c7 := fun W => cmp_at hY l0 (cmp_gt hy0) fy f0 W
  have c8 := fun W (h : Tab W) => mul_at hX hY hD hd fx fy fd W h
  have c9 := fun W (h : Tab W) => div_at hD hY hX l0 (by rw [hd, Int.mul_ediv_cancel _ hy]) (by rw [hd, Int.mul_emod_left]) hy fd fy W h
  have c10 := fun W => cmp_at hR l0 hk fr f0 W
  have c11 := fun W => cmp_at hR hY (cmp_lt hlt) fr fy W
  have c12 := fun W => valid_at hR fr W
  have T := Lib.hid ht
  have C1 := Lib.hid c1; have C2 := Lib.hid c2; have C3 := Lib.hid c3; have C4 := Lib.hid c4; have C5 := Lib.hid c5; have C6 := Lib.hid c6; have C7 := Lib.hid c7; have C8 := Lib.hid c8; have C9 := Lib.hid c9; have C10 := Lib.hid c10; have C11 := Lib.hid c11; have C12 := Lib.hid c12
  clear c1 c2 c3 c4 c5 c6 c7 c8 c9 c10 c11 c12 ht cX hX mx fx cY hY my fy f1 f0 hy0 hy hYn0 hq mq fq hQ hr mr fr hR hp mp fp hP hd md fd hD hk hlt
  go_enter Tryd.func6, Tryd.ntmps6
  go_wp2_with (first
    | (go_at_call 11; (with_reducible refine (sane_any _ T.out).mono ?_); rintro e w1 ⟨rfl, b0⟩)
    | (go_at_call 20; (with_reducible refine (C1.out _).mono ?_); rintro e w2 ⟨rfl, b1⟩; have d1 := below_step b0 b1)
    | (go_at_call 20; (with_reducible refine (C2.out _).mono ?_); rintro e w3 ⟨rfl, b2⟩; have d2 := below_step d1 b2)
    | (go_at_call 18; (with_reducible refine (C3.out _ (T.out.below d2)).mono ?_); rintro e w4 ⟨rfl, b3⟩; have d3 := below_step d2 b3)
    | (go_at_call 16; (with_reducible refine (C4.out _ (T.out.below d3)).mono ?_); rintro e w5 ⟨rfl, b4⟩; have d4 := below_step d3 b4)
    | (go_at_call 14; (with_reducible refine (C5.out _ (T.out.below d4)).mono ?_); rintro e w6 ⟨rfl, b5⟩; have d5 := below_step d4 b5)
    | (go_at_call 16; (with_reducible refine (C6.out _ (T.out.below d5)).mono ?_); rintro e w7 ⟨rfl, b6⟩; have d6 := below_step d5 b6)
    | (go_at_call 17; (with_reducible refine (C7.out _).mono ?_); rintro e w8 ⟨rfl, b7⟩; have d7 := below_step d6 b7)
    | (go_at_call 16; (with_reducible refine (C8.out _ (T.out.below d7)).mono ?_); rintro e w9 ⟨rfl, b8⟩; have d8 := below_step d7 b8)
    | (go_at_call 18; (with_reducible refine (C9.out _ (T.out.below d8)).mono ?_); rintro e w10 ⟨rfl, b9⟩; have d9 := below_step d8 b9)
    | (go_at_call 17; (with_reducible refine (C10.out _).mono ?_); rintro e w11 ⟨rfl, b10⟩; have d10 := below_step d9 b10)
    | (go_at_call 17; (with_reducible refine (C11.out _).mono ?_); rintro e w12 ⟨rfl, b11⟩; have d11 := below_step d10 b11)
    | (go_at_call 19; (with_reducible refine (C12.out _).mono ?_); rintro e w13 ⟨rfl, b12⟩; have d12 := below_step d11 b12)
    | fail)
  go_ret
  exact ⟨rfl, d12⟩

set_option maxRecDepth 100000 in
set_option maxHeartbeats 8000000 in
theorem divided_neg (a b X Y : ByteArray) (x y : Int) (cX : ∀ W, Calls Tryd.prog 20 #[.string a, .int .i64 90] W fun e w' => e = .returned (.string X) ∧ Below W.heap.size W w') (cY : ∀ W, Calls Tryd.prog 20 #[.string b, .int .i64 60] W fun e w' => e = .returned (.string Y) ∧ Below W.heap.size W w') (hX : X = dec x) (mx : Bd x 90) (hY : Y = dec y) (my : Bd y 60) (hy0 : y < 0) (w : World) (ht : Tab w) :
    Calls Tryd.prog 6 #[.string a, .string b] w fun e w' => e = .returned (.bool true) ∧ Below w.heap.size w w' := by
  have fx := mx.fits (by decide)
  have fy := my.fits (by decide)
  have f1 : fits 1 = true := bd_one.fits (by decide)
  have f0 : fits 0 = true := (bd_zero 1).fits (by decide)
  have hy : y ≠ 0 := by omega
  have hYn0 : ¬ Y = ⟨#[48]⟩ := by rw [hY, l0]; exact dec_ne hy
  have hYn : (Y.toList == [48]) = false := ne_zero hYn0
  obtain ⟨q, hq⟩ : ∃ vv : Int, vv = x / y := ⟨_, rfl⟩
  obtain ⟨Q, hQ⟩ : ∃ vv, vv = dec q := ⟨_, rfl⟩
  have mq : Bd q 90 := by rw [hq]; exact ediv_bd mx
  have fq := mq.fits (by decide)
  obtain ⟨r, hr⟩ : ∃ vv : Int, vv = x % y := ⟨_, rfl⟩
  obtain ⟨R, hR⟩ : ∃ vv, vv = dec r := ⟨_, rfl⟩
  have mr : Bd r 60 := by rw [hr]; exact emod_bd my hy
  have fr := mr.fits (by decide)
  obtain ⟨p, hp⟩ : ∃ vv : Int, vv = q * y := ⟨_, rfl⟩
  obtain ⟨P, hP⟩ : ∃ vv, vv = dec p := ⟨_, rfl⟩
  have mp : Bd p 150 := by rw [hp]; exact mq.mul my
  have fp := mp.fits (by decide)
  obtain ⟨d, hd⟩ : ∃ vv : Int, vv = x * y := ⟨_, rfl⟩
  obtain ⟨D, hD⟩ : ∃ vv, vv = dec d := ⟨_, rfl⟩
  have md : Bd d 150 := by rw [hd]; exact mx.mul my
  have fd := md.fits (by decide)
  obtain ⟨k, hk⟩ : ∃ vv : Int, vv = cmpI r 0 := ⟨_, rfl⟩
  have ka : (0 : Int) ≤ k := by rw [hk]; exact cmp_ge (by rw [hr]; exact Int.emod_nonneg x hy)
  have kb : ¬ k < 0 := by omega
  have kc : ¬ (0 : Int) > k := by omega
  obtain ⟨s, hs⟩ : ∃ vv : Int, vv = 0 - y := ⟨_, rfl⟩
  obtain ⟨S, hS⟩ : ∃ vv, vv = dec s := ⟨_, rfl⟩
  have ms : Bd s 61 := by rw [hs]; exact ((bd_zero 60).sub my)
  have fs := ms.fits (by decide)
  have hlt : r < s := by rw [hr, hs]; have := Int.emod_lt x hy; omega
  have c1 := fun W => cX W
  have c2 := fun W => cY W
  have c3 := fun W (h : Tab W) => div_at hX hY hQ hR hq hr hy fx fy W h
  have c4 := fun W (h : Tab W) => mul_at hQ hY hP hp fq fy fp W h
  have c5 := fun W (h : Tab W) => add_at hP hR hX (by rw [hp, hq, hr, Int.mul_comm, Int.mul_ediv_add_emod]) fp fr fx W h
  have c6 := fun W (h : Tab W) => mul_at hY l1 hY (by rw [Int.mul_one]) fy f1 fy W h
  have c7 := fun W => cmp_at hY l0 (cmp_lt hy0) fy f0 W
  have c8 := fun W (h : Tab W) => sub_at l0 hY hS hs f0 fy fs W h
  have c9 := fun W (h : Tab W) => mul_at hX hY hD hd fx fy fd W h
  have c10 := fun W (h : Tab W) => div_at hD hY hX l0 (by rw [hd, Int.mul_ediv_cancel _ hy]) (by rw [hd, Int.mul_emod_left]) hy fd fy W h
  have c11 := fun W => cmp_at hR l0 hk fr f0 W
  have c12 := fun W => cmp_at hR hS (cmp_lt hlt) fr fs W
  have c13 := fun W => valid_at hR fr W
  have T := Lib.hid ht
  have C1 := Lib.hid c1; have C2 := Lib.hid c2; have C3 := Lib.hid c3; have C4 := Lib.hid c4; have C5 := Lib.hid c5; have C6 := Lib.hid c6; have C7 := Lib.hid c7; have C8 := Lib.hid c8; have C9 := Lib.hid c9; have C10 := Lib.hid c10; have C11 := Lib.hid c11; have C12 := Lib.hid c12; have C13 := Lib.hid c13
  clear c1 c2 c3 c4 c5 c6 c7 c8 c9 c10 c11 c12 c13 ht cX hX mx fx cY hY my fy f1 f0 hy0 hy hYn0 hq mq fq hQ hr mr fr hR hp mp fp hP hd md fd hD hk hs ms fs hS hlt
  go_enter Tryd.func6, Tryd.ntmps6
  go_wp2_with (first
    | (go_at_call 11; (with_reducible refine (sane_any _ T.out).mono ?_); rintro e w1 ⟨rfl, b0⟩)
    | (go_at_call 20; (with_reducible refine (C1.out _).mono ?_); rintro e w2 ⟨rfl, b1⟩; have d1 := below_step b0 b1)
    | (go_at_call 20; (with_reducible refine (C2.out _).mono ?_); rintro e w3 ⟨rfl, b2⟩; have d2 := below_step d1 b2)
    | (go_at_call 18; (with_reducible refine (C3.out _ (T.out.below d2)).mono ?_); rintro e w4 ⟨rfl, b3⟩; have d3 := below_step d2 b3)
    | (go_at_call 16; (with_reducible refine (C4.out _ (T.out.below d3)).mono ?_); rintro e w5 ⟨rfl, b4⟩; have d4 := below_step d3 b4)
    | (go_at_call 14; (with_reducible refine (C5.out _ (T.out.below d4)).mono ?_); rintro e w6 ⟨rfl, b5⟩; have d5 := below_step d4 b5)
    | (go_at_call 16; (with_reducible refine (C6.out _ (T.out.below d5)).mono ?_); rintro e w7 ⟨rfl, b6⟩; have d6 := below_step d5 b6)
    | (go_at_call 17; (with_reducible refine (C7.out _).mono ?_); rintro e w8 ⟨rfl, b7⟩; have d7 := below_step d6 b7)
    | (go_at_call 15; (with_reducible refine (C8.out _ (T.out.below d7)).mono ?_); rintro e w9 ⟨rfl, b8⟩; have d8 := below_step d7 b8)
    | (go_at_call 16; (with_reducible refine (C9.out _ (T.out.below d8)).mono ?_); rintro e w10 ⟨rfl, b9⟩; have d9 := below_step d8 b9)
    | (go_at_call 18; (with_reducible refine (C10.out _ (T.out.below d9)).mono ?_); rintro e w11 ⟨rfl, b10⟩; have d10 := below_step d9 b10)
    | (go_at_call 17; (with_reducible refine (C11.out _).mono ?_); rintro e w12 ⟨rfl, b11⟩; have d11 := below_step d10 b11)
    | (go_at_call 17; (with_reducible refine (C12.out _).mono ?_); rintro e w13 ⟨rfl, b12⟩; have d12 := below_step d11 b12)
    | (go_at_call 19; (with_reducible refine (C13.out _).mono ?_); rintro e w14 ⟨rfl, b13⟩; have d13 := below_step d12 b13)
    | fail)
  go_ret
  exact ⟨rfl, d13⟩

theorem divided_walk (a b : ByteArray) (w : World) (ht : Tab w) :
    Calls Tryd.prog 6 #[.string a, .string b] w fun e w' => e = .returned (.bool true) ∧ Below w.heap.size w w' := by
  rcases Int.lt_trichotomy (madeZ b 60) 0 with h | h | h
  · exact divided_neg a b _ _ _ _ (made_at rfl rfl (by decide)) (made_at rfl rfl (by decide)) rfl (made_bd a 90) rfl (made_bd b 60) h w ht
  · exact divided_zero a b _ _ (made_at rfl rfl (by decide)) rfl (made_bd a 90) l0 (made_at (by rw [h]; exact l0) rfl (by decide)) w ht
  · exact divided_pos a b _ _ _ _ (made_at rfl rfl (by decide)) (made_at rfl rfl (by decide)) rfl (made_bd a 90) rfl (made_bd b 60) h w ht
end Go.Proofs.YtnehkoedmcnjoaaDoor
