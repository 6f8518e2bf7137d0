/- The walk of IntegerOrder. -/
import Derived.Test.YtnehkoedmcnjoaaDoorBd
namespace Go.Proofs.YtnehkoedmcnjoaaDoor
open Go.RowKit

set_option maxRecDepth 100000 in
set_option maxHeartbeats 8000000 in
theorem order_gt (a b c X Y Z : ByteArray) (x y z : Int) (cX : ∀ W, Calls Tryd.prog 20 #[.string a, .int .i64 60] W fun e w' => e = .returned (.string X) ∧ Below W.heap.size W w') (cY : ∀ W, Calls Tryd.prog 20 #[.string b, .int .i64 60] W fun e w' => e = .returned (.string Y) ∧ Below W.heap.size W w') (cZ : ∀ W, Calls Tryd.prog 20 #[.string c, .int .i64 60] W fun e w' => e = .returned (.string Z) ∧ Below W.heap.size W w') (hX : X = dec x) (mx : Bd x 60) (hY : Y = dec y) (my : Bd y 60) (hZ : Z = dec z) (mz : Bd z 60) (h0 : y < x) (w : World) (ht : Tab w) :
    Calls Tryd.prog 9 #[.string a, .string b, .string c] w fun e w' => e = .returned (.bool true) ∧ Below w.heap.size w w' := by
  have fx := mx.fits (by decide)
  have fy := my.fits (by decide)
  have fz := mz.fits (by decide)
  have f1 : fits 1 = true := bd_one.fits (by decide)
  have f0 : fits 0 = true := (bd_zero 1).fits (by decide)
  obtain ⟨d, hd⟩ : ∃ vv : Int, vv = x - y := ⟨_, rfl⟩
  obtain ⟨D, hD⟩ : ∃ vv, vv = dec d := ⟨_, rfl⟩
  have md : Bd d 61 := by rw [hd]; exact mx.sub my
  have fd := md.fits (by decide)
  obtain ⟨p, hp⟩ : ∃ vv : Int, vv = x + z := ⟨_, rfl⟩
  obtain ⟨P, hP⟩ : ∃ vv, vv = dec p := ⟨_, rfl⟩
  have mp : Bd p 61 := by rw [hp]; exact mx.add mz
  have fp := mp.fits (by decide)
  obtain ⟨q, hq⟩ : ∃ vv : Int, vv = y + z := ⟨_, rfl⟩
  obtain ⟨Q, hQ⟩ : ∃ vv, vv = dec q := ⟨_, rfl⟩
  have mq : Bd q 61 := by rw [hq]; exact my.add mz
  have fq := mq.fits (by decide)
  have hXY0 : ¬ X = Y := by rw [hX, hY]; exact dec_ne (by omega)
  have hXY : (X.toList == Y.toList) = false := ne_list hXY0
  have c1 := fun W => cX W
  have c2 := fun W => cY W
  have c3 := fun W => cZ W
  have c4 := fun W => cmp_at hX hY (cmp_gt (by omega)) fx fy W
  have c5 := fun W (h : Tab W) => sub_at hX hY hD hd fx fy fd W h
  have c6 := fun W (h : Tab W) => add_at hX hZ hP hp fx fz fp W h
  have c7 := fun W (h : Tab W) => add_at hY hZ hQ hq fy fz fq W h
  have c8 := fun W => cmp_at hY hX (cmp_lt (by omega)) fy fx W
  have c9 := fun W => cmp_at hD l0 (cmp_gt (by omega)) fd f0 W
  have c10 := fun W => cmp_at hP hQ (cmp_gt (by omega)) fp fq W
  have T := Lib.hid ht
  have C1 := Lib.hid c1; have C2 := Lib.hid c2; have C3 := Lib.hid c3; have C4 := Lib.hid c4; have C5 := Lib.hid c5; have C6 := Lib.hid c6; have C7 := Lib.hid c7; have C8 := Lib.hid c8; have C9 := Lib.hid c9; have C10 := Lib.hid c10
  clear c1 c2 c3 c4 c5 c6 c7 c8 c9 c10 ht cX hX mx fx cY hY my fy cZ hZ mz fz f1 f0 h0 hd md fd hD hp mp fp hP hq mq fq hQ hXY0
  go_enter Tryd.func9, Tryd.ntmps9
  go_wp2_with (first
    | (go_at_call 11; (with_reducible refine (sane_any _ T.out).mono ?_); rintro e w1 ⟨rfl, b0⟩)
    | (go_at_call 20; (with_reducible refine (C1.out _).mono ?_); rintro e w2 ⟨rfl, b1⟩; have d1 := below_step b0 b1)
    | (go_at_call 20; (with_reducible refine (C2.out _).mono ?_); rintro e w3 ⟨rfl, b2⟩; have d2 := below_step d1 b2)
    | (go_at_call 20; (with_reducible refine (C3.out _).mono ?_); rintro e w4 ⟨rfl, b3⟩; have d3 := below_step d2 b3)
    | (go_at_call 17; (with_reducible refine (C4.out _).mono ?_); rintro e w5 ⟨rfl, b4⟩; have d4 := below_step d3 b4)
    | (go_at_call 15; (with_reducible refine (C5.out _ (T.out.below d4)).mono ?_); rintro e w6 ⟨rfl, b5⟩; have d5 := below_step d4 b5)
    | (go_at_call 14; (with_reducible refine (C6.out _ (T.out.below d5)).mono ?_); rintro e w7 ⟨rfl, b6⟩; have d6 := below_step d5 b6)
    | (go_at_call 14; (with_reducible refine (C7.out _ (T.out.below d6)).mono ?_); rintro e w8 ⟨rfl, b7⟩; have d7 := below_step d6 b7)
    | (go_at_call 17; (with_reducible refine (C8.out _).mono ?_); rintro e w9 ⟨rfl, b8⟩; have d8 := below_step d7 b8)
    | (go_at_call 17; (with_reducible refine (C9.out _).mono ?_); rintro e w10 ⟨rfl, b9⟩; have d9 := below_step d8 b9)
    | (go_at_call 17; (with_reducible refine (C10.out _).mono ?_); rintro e w11 ⟨rfl, b10⟩; have d10 := below_step d9 b10)
    | fail)
  go_ret
  exact ⟨rfl, d10⟩

set_option maxRecDepth 100000 in
set_option maxHeartbeats 8000000 in
theorem order_ltg (a b c X Y Z : ByteArray) (x y z : Int) (cX : ∀ W, Calls Tryd.prog 20 #[.string a, .int .i64 60] W fun e w' => e = .returned (.string X) ∧ Below W.heap.size W w') (cY : ∀ W, Calls Tryd.prog 20 #[.string b, .int .i64 60] W fun e w' => e = .returned (.string Y) ∧ Below W.heap.size W w') (cZ : ∀ W, Calls Tryd.prog 20 #[.string c, .int .i64 60] W fun e w' => e = .returned (.string Z) ∧ Below W.heap.size W w') (hX : X = dec x) (mx : Bd x 60) (hY : Y = dec y) (my : Bd y 60) (hZ : Z = dec z) (mz : Bd z 60) (h0 : x < y) (h1 : z < y) (w : World) (ht : Tab w) :
    Calls Tryd.prog 9 #[.string a, .string b, .string c] w fun e w' => e = .returned (.bool true) ∧ Below w.heap.size w w' := by
  have fx := mx.fits (by decide)
  have fy := my.fits (by decide)
  have fz := mz.fits (by decide)
  have f1 : fits 1 = true := bd_one.fits (by decide)
  have f0 : fits 0 = true := (bd_zero 1).fits (by decide)
  obtain ⟨d, hd⟩ : ∃ vv : Int, vv = x - y := ⟨_, rfl⟩
  obtain ⟨D, hD⟩ : ∃ vv, vv = dec d := ⟨_, rfl⟩
  have md : Bd d 61 := by rw [hd]; exact mx.sub my
  have fd := md.fits (by decide)
  obtain ⟨p, hp⟩ : ∃ vv : Int, vv = x + z := ⟨_, rfl⟩
  obtain ⟨P, hP⟩ : ∃ vv, vv = dec p := ⟨_, rfl⟩
  have mp : Bd p 61 := by rw [hp]; exact mx.add mz
  have fp := mp.fits (by decide)
  obtain ⟨q, hq⟩ : ∃ vv : Int, vv = y + z := ⟨_, rfl⟩
  obtain ⟨Q, hQ⟩ : ∃ vv, vv = dec q := ⟨_, rfl⟩
  have mq : Bd q 61 := by rw [hq]; exact my.add mz
  have fq := mq.fits (by decide)
  have hXY0 : ¬ X = Y := by rw [hX, hY]; exact dec_ne (by omega)
  have hXY : (X.toList == Y.toList) = false := ne_list hXY0
  have c1 := fun W => cX W
  have c2 := fun W => cY W
  have c3 := fun W => cZ W
  have c4 := fun W => cmp_at hX hY (cmp_lt (by omega)) fx fy W
  have c5 := fun W (h : Tab W) => sub_at hX hY hD hd fx fy fd W h
  have c6 := fun W (h : Tab W) => add_at hX hZ hP hp fx fz fp W h
  have c7 := fun W (h : Tab W) => add_at hY hZ hQ hq fy fz fq W h
  have c8 := fun W => cmp_at hY hX (cmp_gt (by omega)) fy fx W
  have c9 := fun W => cmp_at hD l0 (cmp_lt (by omega)) fd f0 W
  have c10 := fun W => cmp_at hP hQ (cmp_lt (by omega)) fp fq W
  have c11 := fun W => cmp_at hY hZ (cmp_gt h1) fy fz W
  have T := Lib.hid ht
  have C1 := Lib.hid c1; have C2 := Lib.hid c2; have C3 := Lib.hid c3; have C4 := Lib.hid c4; have C5 := Lib.hid c5; have C6 := Lib.hid c6; have C7 := Lib.hid c7; have C8 := Lib.hid c8; have C9 := Lib.hid c9; have C10 := Lib.hid c10; have C11 := Lib.hid c11
  clear c1 c2 c3 c4 c5 c6 c7 c8 c9 c10 c11 ht cX hX mx fx cY hY my fy cZ hZ mz fz f1 f0 h0 h1 hd md fd hD hp mp fp hP hq mq fq hQ hXY0
  go_enter Tryd.func9, Tryd.ntmps9
  go_wp2_with (first
    | (go_at_call 11; (with_reducible refine (sane_any _ T.out).mono ?_); rintro e w1 ⟨rfl, b0⟩)
    | (go_at_call 20; (with_reducible refine (C1.out _).mono ?_); rintro e w2 ⟨rfl, b1⟩; have d1 := below_step b0 b1)
    | (go_at_call 20; (with_reducible refine (C2.out _).mono ?_); rintro e w3 ⟨rfl, b2⟩; have d2 := below_step d1 b2)
    | (go_at_call 20; (with_reducible refine (C3.out _).mono ?_); rintro e w4 ⟨rfl, b3⟩; have d3 := below_step d2 b3)
    | (go_at_call 17; (with_reducible refine (C4.out _).mono ?_); rintro e w5 ⟨rfl, b4⟩; have d4 := below_step d3 b4)
    | (go_at_call 15; (with_reducible refine (C5.out _ (T.out.below d4)).mono ?_); rintro e w6 ⟨rfl, b5⟩; have d5 := below_step d4 b5)
    | (go_at_call 14; (with_reducible refine (C6.out _ (T.out.below d5)).mono ?_); rintro e w7 ⟨rfl, b6⟩; have d6 := below_step d5 b6)
    | (go_at_call 14; (with_reducible refine (C7.out _ (T.out.below d6)).mono ?_); rintro e w8 ⟨rfl, b7⟩; have d7 := below_step d6 b7)
    | (go_at_call 17; (with_reducible refine (C8.out _).mono ?_); rintro e w9 ⟨rfl, b8⟩; have d8 := below_step d7 b8)
    | (go_at_call 17; (with_reducible refine (C9.out _).mono ?_); rintro e w10 ⟨rfl, b9⟩; have d9 := below_step d8 b9)
    | (go_at_call 17; (with_reducible refine (C10.out _).mono ?_); rintro e w11 ⟨rfl, b10⟩; have d10 := below_step d9 b10)
    | (go_at_call 17; (with_reducible refine (C11.out _).mono ?_); rintro e w12 ⟨rfl, b11⟩; have d11 := below_step d10 b11)
    | fail)
  go_ret
  exact ⟨rfl, d11⟩

set_option maxRecDepth 100000 in
set_option maxHeartbeats 8000000 in
theorem order_ltl (a b c X Y Z : ByteArray) (x y z : Int) (cX : ∀ W, Calls Tryd.prog 20 #[.string a, .int .i64 60] W fun e w' => e = .returned (.string X) ∧ Below W.heap.size W w') (cY : ∀ W, Calls Tryd.prog 20 #[.string b, .int .i64 60] W fun e w' => e = .returned (.string Y) ∧ Below W.heap.size W w') (cZ : ∀ W, Calls Tryd.prog 20 #[.string c, .int .i64 60] W fun e w' => e = .returned (.string Z) ∧ Below W.heap.size W w') (hX : X = dec x) (mx : Bd x 60) (hY : Y = dec y) (my : Bd y 60) (hZ : Z = dec z) (mz : Bd z 60) (h0 : x < y) (h1 : y ≤ z) (w : World) (ht : Tab w) :
    Calls Tryd.prog 9 #[.string a, .string b, .string c] w fun e w' => e = .returned (.bool true) ∧ Below w.heap.size w w' := by
  have fx := mx.fits (by decide)
  have fy := my.fits (by decide)
  have fz := mz.fits (by decide)
  have f1 : fits 1 = true := bd_one.fits (by decide)
  have f0 : fits 0 = true := (bd_zero 1).fits (by decide)
  obtain ⟨d, hd⟩ : ∃ vv : Int, vv = x - y := ⟨_, rfl⟩
  obtain ⟨D, hD⟩ : ∃ vv, vv = dec d := ⟨_, rfl⟩
  have md : Bd d 61 := by rw [hd]; exact mx.sub my
  have fd := md.fits (by decide)
  obtain ⟨p, hp⟩ : ∃ vv : Int, vv = x + z := ⟨_, rfl⟩
  obtain ⟨P, hP⟩ : ∃ vv, vv = dec p := ⟨_, rfl⟩
  have mp : Bd p 61 := by rw [hp]; exact mx.add mz
  have fp := mp.fits (by decide)
  obtain ⟨q, hq⟩ : ∃ vv : Int, vv = y + z := ⟨_, rfl⟩
  obtain ⟨Q, hQ⟩ : ∃ vv, vv = dec q := ⟨_, rfl⟩
  have mq : Bd q 61 := by rw [hq]; exact my.add mz
  have fq := mq.fits (by decide)
  have hXY0 : ¬ X = Y := by rw [hX, hY]; exact dec_ne (by omega)
  have hXY : (X.toList == Y.toList) = false := ne_list hXY0
  obtain ⟨k, hk⟩ : ∃ vv : Int, vv = cmpI y z := ⟨_, rfl⟩
  have ka : k ≤ (0 : Int) := by rw [hk]; exact cmp_le h1
  have kb : ¬ (0 : Int) < k := by omega
  obtain ⟨j, hj⟩ : ∃ vv : Int, vv = cmpI x z := ⟨_, rfl⟩
  have ja : j ≤ (0 : Int) := by rw [hj]; exact cmp_le (by omega)
  have jb : ¬ (0 : Int) < j := by omega
  have c1 := fun W => cX W
  have c2 := fun W => cY W
  have c3 := fun W => cZ W
  have c4 := fun W => cmp_at hX hY (cmp_lt (by omega)) fx fy W
  have c5 := fun W (h : Tab W) => sub_at hX hY hD hd fx fy fd W h
  have c6 := fun W (h : Tab W) => add_at hX hZ hP hp fx fz fp W h
  have c7 := fun W (h : Tab W) => add_at hY hZ hQ hq fy fz fq W h
  have c8 := fun W => cmp_at hY hX (cmp_gt (by omega)) fy fx W
  have c9 := fun W => cmp_at hD l0 (cmp_lt (by omega)) fd f0 W
  have c10 := fun W => cmp_at hP hQ (cmp_lt (by omega)) fp fq W
  have c11 := fun W => cmp_at hY hZ hk fy fz W
  have c12 := fun W => cmp_at hX hZ hj fx fz W
  have T := Lib.hid ht
  have C1 := Lib.hid c1; have C2 := Lib.hid c2; have C3 := Lib.hid c3; have C4 := Lib.hid c4; have C5 := Lib.hid c5; have C6 := Lib.hid c6; have C7 := Lib.hid c7; have C8 := Lib.hid c8; have C9 := Lib.hid c9; have C10 := Lib.hid c10; have C11 := Lib.hid c11; have C12 := Lib.hid c12
  clear c1 c2 c3 c4 c5 c6 c7 c8 c9 c10 c11 c12 ht cX hX mx fx cY hY my fy cZ hZ mz fz f1 f0 h0 h1 hd md fd hD hp mp fp hP hq mq fq hQ hXY0 hk hj
  go_enter Tryd.func9, Tryd.ntmps9
  go_wp2_with (first
    | (go_at_call 11; (with_reducible refine (sane_any _ T.out).mono ?_); rintro e w1 ⟨rfl, b0⟩)
    | (go_at_call 20; (with_reducible refine (C1.out _).mono ?_); rintro e w2 ⟨rfl, b1⟩; have d1 := below_step b0 b1)
    | (go_at_call 20; (with_reducible refine (C2.out _).mono ?_); rintro e w3 ⟨rfl, b2⟩; have d2 := below_step d1 b2)
    | (go_at_call 20; (with_reducible refine (C3.out _).mono ?_); rintro e w4 ⟨rfl, b3⟩; have d3 := below_step d2 b3)
    | (go_at_call 17; (with_reducible refine (C4.out _).mono ?_); rintro e w5 ⟨rfl, b4⟩; have d4 := below_step d3 b4)
    | (go_at_call 15; (with_reducible refine (C5.out _ (T.out.below d4)).mono ?_); rintro e w6 ⟨rfl, b5⟩; have d5 := below_step d4 b5)
    | (go_at_call 14; (with_reducible refine (C6.out _ (T.out.below d5)).mono ?_); rintro e w7 ⟨rfl, b6⟩; have d6 := below_step d5 b6)
    | (go_at_call 14; (with_reducible refine (C7.out _ (T.out.below d6)).mono ?_); rintro e w8 ⟨rfl, b7⟩; have d7 := below_step d6 b7)
    | (go_at_call 17; (with_reducible refine (C8.out _).mono ?_); rintro e w9 ⟨rfl, b8⟩; have d8 := below_step d7 b8)
    | (go_at_call 17; (with_reducible refine (C9.out _).mono ?_); rintro e w10 ⟨rfl, b9⟩; have d9 := below_step d8 b9)
    | (go_at_call 17; (with_reducible refine (C10.out _).mono ?_); rintro e w11 ⟨rfl, b10⟩; have d10 := below_step d9 b10)
    | (go_at_call 17; (with_reducible refine (C11.out _).mono ?_); rintro e w12 ⟨rfl, b11⟩; have d11 := below_step d10 b11)
    | (go_at_call 17; (with_reducible refine (C12.out _).mono ?_); rintro e w13 ⟨rfl, b12⟩; have d12 := below_step d11 b12)
    | fail)
  go_ret
  exact ⟨rfl, d12⟩

set_option maxRecDepth 100000 in
set_option maxHeartbeats 8000000 in
theorem order_eqg (a b c X Y Z : ByteArray) (x y z : Int) (cX : ∀ W, Calls Tryd.prog 20 #[.string a, .int .i64 60] W fun e w' => e = .returned (.string X) ∧ Below W.heap.size W w') (cY : ∀ W, Calls Tryd.prog 20 #[.string b, .int .i64 60] W fun e w' => e = .returned (.string Y) ∧ Below W.heap.size W w') (cZ : ∀ W, Calls Tryd.prog 20 #[.string c, .int .i64 60] W fun e w' => e = .returned (.string Z) ∧ Below W.heap.size W w') (hX : X = dec x) (mx : Bd x 60) (hY : Y = dec y) (my : Bd y 60) (hZ : Z = dec z) (mz : Bd z 60) (h0 : x = y) (h1 : z < y) (w : World) (ht : Tab w) :
    Calls Tryd.prog 9 #[.string a, .string b, .string c] w fun e w' => e = .returned (.bool true) ∧ Below w.heap.size w w' := by
  have fx := mx.fits (by decide)
  have fy := my.fits (by decide)
  have fz := mz.fits (by decide)
  have f1 : fits 1 = true := bd_one.fits (by decide)
  have f0 : fits 0 = true := (bd_zero 1).fits (by decide)
  obtain ⟨d, hd⟩ : ∃ vv : Int, vv = x - y := ⟨_, rfl⟩
  obtain ⟨D, hD⟩ : ∃ vv, vv = dec d := ⟨_, rfl⟩
  have md : Bd d 61 := by rw [hd]; exact mx.sub my
  have fd := md.fits (by decide)
  obtain ⟨p, hp⟩ : ∃ vv : Int, vv = x + z := ⟨_, rfl⟩
  obtain ⟨P, hP⟩ : ∃ vv, vv = dec p := ⟨_, rfl⟩
  have mp : Bd p 61 := by rw [hp]; exact mx.add mz
  have fp := mp.fits (by decide)
  obtain ⟨q, hq⟩ : ∃ vv : Int, vv = y + z := ⟨_, rfl⟩
  obtain ⟨Q, hQ⟩ : ∃ vv, vv = dec q := ⟨_, rfl⟩
  have mq : Bd q 61 := by rw [hq]; exact my.add mz
  have fq := mq.fits (by decide)
  have hXY : (X.toList == Y.toList) = true := by rw [hX, hY, h0]; exact beq_self_eq_true _
  have c1 := fun W => cX W
  have c2 := fun W => cY W
  have c3 := fun W => cZ W
  have c4 := fun W => cmp_at hX hY (cmp_eq (by omega)) fx fy W
  have c5 := fun W (h : Tab W) => sub_at hX hY hD hd fx fy fd W h
  have c6 := fun W (h : Tab W) => add_at hX hZ hP hp fx fz fp W h
  have c7 := fun W (h : Tab W) => add_at hY hZ hQ hq fy fz fq W h
  have c8 := fun W => cmp_at hY hX (cmp_eq (by omega)) fy fx W
  have c9 := fun W => cmp_at hD l0 (cmp_eq (by omega)) fd f0 W
  have c10 := fun W => cmp_at hP hQ (cmp_eq (by omega)) fp fq W
  have c11 := fun W => cmp_at hY hZ (cmp_gt h1) fy fz W
  have T := Lib.hid ht
  have C1 := Lib.hid c1; have C2 := Lib.hid c2; have C3 := Lib.hid c3; have C4 := Lib.hid c4; have C5 := Lib.hid c5; have C6 := Lib.hid c6; have C7 := Lib.hid c7; have C8 := Lib.hid c8; have C9 := Lib.hid c9; have C10 := Lib.hid c10; have C11 := Lib.hid c11
  clear c1 c2 c3 c4 c5 c6 c7 c8 c9 c10 c11 ht cX hX mx fx cY hY my fy cZ hZ mz fz f1 f0 h0 h1 hd md fd hD hp mp fp hP hq mq fq hQ
  go_enter Tryd.func9, Tryd.ntmps9
  go_wp2_with (first
    | (go_at_call 11; (with_reducible refine (sane_any _ T.out).mono ?_); rintro e w1 ⟨rfl, b0⟩)
    | (go_at_call 20; (with_reducible refine (C1.out _).mono ?_); rintro e w2 ⟨rfl, b1⟩; have d1 := below_step b0 b1)
    | (go_at_call 20; (with_reducible refine (C2.out _).mono ?_); rintro e w3 ⟨rfl, b2⟩; have d2 := below_step d1 b2)
    | (go_at_call 20; (with_reducible refine (C3.out _).mono ?_); rintro e w4 ⟨rfl, b3⟩; have d3 := below_step d2 b3)
    | (go_at_call 17; (with_reducible refine (C4.out _).mono ?_); rintro e w5 ⟨rfl, b4⟩; have d4 := below_step d3 b4)
    | (go_at_call 15; (with_reducible refine (C5.out _ (T.out.below d4)).mono ?_); rintro e w6 ⟨rfl, b5⟩; have d5 := below_step d4 b5)
    | (go_at_call 14; (with_reducible refine (C6.out _ (T.out.below d5)).mono ?_); rintro e w7 ⟨rfl, b6⟩; have d6 := below_step d5 b6)
    | (go_at_call 14; (with_reducible refine (C7.out _ (T.out.below d6)).mono ?_); rintro e w8 ⟨rfl, b7⟩; have d7 := below_step d6 b7)
    | (go_at_call 17; (with_reducible refine (C8.out _).mono ?_); rintro e w9 ⟨rfl, b8⟩; have d8 := below_step d7 b8)
    | (go_at_call 17; (with_reducible refine (C9.out _).mono ?_); rintro e w10 ⟨rfl, b9⟩; have d9 := below_step d8 b9)
    | (go_at_call 17; (with_reducible refine (C10.out _).mono ?_); rintro e w11 ⟨rfl, b10⟩; have d10 := below_step d9 b10)
    | (go_at_call 17; (with_reducible refine (C11.out _).mono ?_); rintro e w12 ⟨rfl, b11⟩; have d11 := below_step d10 b11)
    | fail)
  go_ret
  exact ⟨rfl, d11⟩

set_option maxRecDepth 100000 in
set_option maxHeartbeats 8000000 in
theorem order_eql (a b c X Y Z : ByteArray) (x y z : Int) (cX : ∀ W, Calls Tryd.prog 20 #[.string a, .int .i64 60] W fun e w' => e = .returned (.string X) ∧ Below W.heap.size W w') (cY : ∀ W, Calls Tryd.prog 20 #[.string b, .int .i64 60] W fun e w' => e = .returned (.string Y) ∧ Below W.heap.size W w') (cZ : ∀ W, Calls Tryd.prog 20 #[.string c, .int .i64 60] W fun e w' => e = .returned (.string Z) ∧ Below W.heap.size W w') (hX : X = dec x) (mx : Bd x 60) (hY : Y = dec y) (my : Bd y 60) (hZ : Z = dec z) (mz : Bd z 60) (h0 : x = y) (h1 : y ≤ z) (w : World) (ht : Tab w) :
    Calls Tryd.prog 9 #[.string a, .string b, .string c] w fun e w' => e = .returned (.bool true) ∧ Below w.heap.size w w' := by
  have fx := mx.fits (by decide)
  have fy := my.fits (by decide)
  have fz := mz.fits (by decide)
  have f1 : fits 1 = true := bd_one.fits (by decide)
  have f0 : fits 0 = true := (bd_zero 1).fits (by decide)
  obtain ⟨d, hd⟩ : ∃ vv : Int, vv = x - y := ⟨_, rfl⟩
  obtain ⟨D, hD⟩ : ∃ vv, vv = dec d := ⟨_, rfl⟩
  have md : Bd d 61 := by rw [hd]; exact mx.sub my
  have fd := md.fits (by decide)
  obtain ⟨p, hp⟩ : ∃ vv : Int, vv = x + z := ⟨_, rfl⟩
  obtain ⟨P, hP⟩ : ∃ vv, vv = dec p := ⟨_, rfl⟩
  have mp : Bd p 61 := by rw [hp]; exact mx.add mz
  have fp := mp.fits (by decide)
  obtain ⟨q, hq⟩ : ∃ vv : Int, vv = y + z := ⟨_, rfl⟩
  obtain ⟨Q, hQ⟩ : ∃ vv, vv = dec q := ⟨_, rfl⟩
  have mq : Bd q 61 := by rw [hq]; exact my.add mz
  have fq := mq.fits (by decide)
  have hXY : (X.toList == Y.toList) = true := by rw [hX, hY, h0]; exact beq_self_eq_true _
  obtain ⟨k, hk⟩ : ∃ vv : Int, vv = cmpI y z := ⟨_, rfl⟩
  have ka : k ≤ (0 : Int) := by rw [hk]; exact cmp_le h1
  have kb : ¬ (0 : Int) < k := by omega
  obtain ⟨j, hj⟩ : ∃ vv : Int, vv = cmpI x z := ⟨_, rfl⟩
  have ja : j ≤ (0 : Int) := by rw [hj]; exact cmp_le (by omega)
  have jb : ¬ (0 : Int) < j := by omega
  have c1 := fun W => cX W
  have c2 := fun W => cY W
  have c3 := fun W => cZ W
  have c4 := fun W => cmp_at hX hY (cmp_eq (by omega)) fx fy W
  have c5 := fun W (h : Tab W) => sub_at hX hY hD hd fx fy fd W h
  have c6 := fun W (h : Tab W) => add_at hX hZ hP hp fx fz fp W h
  have c7 := fun W (h : Tab W) => add_at hY hZ hQ hq fy fz fq W h
  have c8 := fun W => cmp_at hY hX (cmp_eq (by omega)) fy fx W
  have c9 := fun W => cmp_at hD l0 (cmp_eq (by omega)) fd f0 W
  have c10 := fun W => cmp_at hP hQ (cmp_eq (by omega)) fp fq W
  have c11 := fun W => cmp_at hY hZ hk fy fz W
  have c12 := fun W => cmp_at hX hZ hj fx fz W
  have T := Lib.hid ht
  have C1 := Lib.hid c1; have C2 := Lib.hid c2; have C3 := Lib.hid c3; have C4 := Lib.hid c4; have C5 := Lib.hid c5; have C6 := Lib.hid c6; have C7 := Lib.hid c7; have C8 := Lib.hid c8; have C9 := Lib.hid c9; have C10 := Lib.hid c10; have C11 := Lib.hid c11; have C12 := Lib.hid c12
  clear c1 c2 c3 c4 c5 c6 c7 c8 c9 c10 c11 c12 ht cX hX mx fx cY hY my fy cZ hZ mz fz f1 f0 h0 h1 hd md fd hD hp mp fp hP hq mq fq hQ hk hj
  go_enter Tryd.func9, Tryd.ntmps9
  go_wp2_with (first
    | (go_at_call 11; (with_reducible refine (sane_any _ T.out).mono ?_); rintro e w1 ⟨rfl, b0⟩)
    | (go_at_call 20; (with_reducible refine (C1.out _).mono ?_); rintro e w2 ⟨rfl, b1⟩; have d1 := below_step b0 b1)
    | (go_at_call 20; (with_reducible refine (C2.out _).mono ?_); rintro e w3 ⟨rfl, b2⟩; have d2 := below_step d1 b2)
    | (go_at_call 20; (with_reducible refine (C3.out _).mono ?_); rintro e w4 ⟨rfl, b3⟩; have d3 := below_step d2 b3)
    | (go_at_call 17; (with_reducible refine (C4.out _).mono ?_); rintro e w5 ⟨rfl, b4⟩; have d4 := below_step d3 b4)
    | (go_at_call 15; (with_reducible refine (C5.out _ (T.out.below d4)).mono ?_); rintro e w6 ⟨rfl, b5⟩; have d5 := below_step d4 b5)
    | (go_at_call 14; (with_reducible refine (C6.out _ (T.out.below d5)).mono ?_); rintro e w7 ⟨rfl, b6⟩; have d6 := below_step d5 b6)
    | (go_at_call 14; (with_reducible refine (C7.out _ (T.out.below d6)).mono ?_); rintro e w8 ⟨rfl, b7⟩; have d7 := below_step d6 b7)
    | (go_at_call 17; (with_reducible refine (C8.out _).mono ?_); rintro e w9 ⟨rfl, b8⟩; have d8 := below_step d7 b8)
    | (go_at_call 17; (with_reducible refine (C9.out _).mono ?_); rintro e w10 ⟨rfl, b9⟩; have d9 := below_step d8 b9)
    | (go_at_call 17; (with_reducible refine (C10.out _).mono ?_); rintro e w11 ⟨rfl, b10⟩; have d10 := below_step d9 b10)
    | (go_at_call 17; (with_reducible refine (C11.out _).mono ?_); rintro e w12 ⟨rfl, b11⟩; have d11 := below_step d10 b11)
    | (go_at_call 17; (with_reducible refine (C12.out _).mono ?_); rintro e w13 ⟨rfl, b12⟩; have d12 := below_step d11 b12)
    | fail)
  go_ret
  exact ⟨rfl, d12⟩

theorem order_walk (a b c : ByteArray) (w : World) (ht : Tab w) :
    Calls Tryd.prog 9 #[.string a, .string b, .string c] w fun e w' => e = .returned (.bool true) ∧ Below w.heap.size w w' := by
  rcases Int.lt_trichotomy (madeZ a 60) (madeZ b 60) with h | h | h
  · rcases Int.lt_or_le (madeZ c 60) (madeZ b 60) with h1 | h1
    · exact order_ltg a b c _ _ _ _ _ _ (made_at rfl rfl (by decide)) (made_at rfl rfl (by decide)) (made_at rfl rfl (by decide)) rfl (made_bd a 60) rfl (made_bd b 60) rfl (made_bd c 60) h h1 w ht
    · exact order_ltl a b c _ _ _ _ _ _ (made_at rfl rfl (by decide)) (made_at rfl rfl (by decide)) (made_at rfl rfl (by decide)) rfl (made_bd a 60) rfl (made_bd b 60) rfl (made_bd c 60) h h1 w ht
  · rcases Int.lt_or_le (madeZ c 60) (madeZ b 60) with h1 | h1
    · exact order_eqg a b c _ _ _ _ _ _ (made_at rfl rfl (by decide)) (made_at rfl rfl (by decide)) (made_at rfl rfl (by decide)) rfl (made_bd a 60) rfl (made_bd b 60) rfl (made_bd c 60) h h1 w ht
    · exact order_eql a b c _ _ _ _ _ _ (made_at rfl rfl (by decide)) (made_at rfl rfl (by decide)) (made_at rfl rfl (by decide)) rfl (made_bd a 60) rfl (made_bd b 60) rfl (made_bd c 60) h h1 w ht
  · exact order_gt a b c _ _ _ _ _ _ (made_at rfl rfl (by decide)) (made_at rfl rfl (by decide)) (made_at rfl rfl (by decide)) rfl (made_bd a 60) rfl (made_bd b 60) rfl (made_bd c 60) h w ht
end Go.Proofs.YtnehkoedmcnjoaaDoor
