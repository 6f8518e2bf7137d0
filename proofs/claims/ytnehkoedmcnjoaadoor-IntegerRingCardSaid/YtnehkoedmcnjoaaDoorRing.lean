/- The walk of IntegerRing. -/
import Derived.Test.YtnehkoedmcnjoaaDoorBd
namespace Go.Proofs.YtnehkoedmcnjoaaDoor
open Go.RowKit

set_option maxRecDepth 100000 in
set_option maxHeartbeats 8000000 in
theorem ring_core (a b c X Y Z : ByteArray) (x y z : Int) (cX : ∀ W, Calls Tryd.prog 20 #[.string a, .int .i64 60] W fun e w' => e = .returned (.string X) ∧ Below W.heap.size W w') (cY : ∀ W, Calls Tryd.prog 20 #[.string b, .int .i64 60] W fun e w' => e = .returned (.string Y) ∧ Below W.heap.size W w') (cZ : ∀ W, Calls Tryd.prog 20 #[.string c, .int .i64 60] W fun e w' => e = .returned (.string Z) ∧ Below W.heap.size W w') (hX : X = dec x) (mx : Bd x 60) (hY : Y = dec y) (my : Bd y 60) (hZ : Z = dec z) (mz : Bd z 60) (w : World) (ht : Tab w) :
    Calls Tryd.prog 5 #[.string a, .string b, .string c] w fun e w' => e = .returned (.bool true) ∧ Below w.heap.size w w' := by
  have fx := mx.fits (by decide)
  have fy := my.fits (by decide)
  have fz := mz.fits (by decide)
  obtain ⟨xy, hxy⟩ : ∃ vv : Int, vv = x + y := ⟨_, rfl⟩
  obtain ⟨XY, hXY⟩ : ∃ vv, vv = dec xy := ⟨_, rfl⟩
  have mxy : Bd xy 61 := by rw [hxy]; exact mx.add my
  obtain ⟨xyz, hxyz⟩ : ∃ vv : Int, vv = xy + z := ⟨_, rfl⟩
  obtain ⟨XYZ, hXYZ⟩ : ∃ vv, vv = dec xyz := ⟨_, rfl⟩
  have mxyz : Bd xyz 62 := by rw [hxyz]; exact mxy.add (mz.more (by decide))
  obtain ⟨yz, hyz⟩ : ∃ vv : Int, vv = y + z := ⟨_, rfl⟩
  obtain ⟨YZ, hYZ⟩ : ∃ vv, vv = dec yz := ⟨_, rfl⟩
  have myz : Bd yz 61 := by rw [hyz]; exact my.add mz
  obtain ⟨p, hp⟩ : ∃ vv : Int, vv = x * y := ⟨_, rfl⟩
  obtain ⟨P, hP⟩ : ∃ vv, vv = dec p := ⟨_, rfl⟩
  have mp : Bd p 120 := by rw [hp]; exact mx.mul my
  obtain ⟨pz, hpz⟩ : ∃ vv : Int, vv = p * z := ⟨_, rfl⟩
  obtain ⟨PZ, hPZ⟩ : ∃ vv, vv = dec pz := ⟨_, rfl⟩
  have mpz : Bd pz 180 := by rw [hpz]; exact mp.mul mz
  obtain ⟨r, hr⟩ : ∃ vv : Int, vv = y * z := ⟨_, rfl⟩
  obtain ⟨R, hR⟩ : ∃ vv, vv = dec r := ⟨_, rfl⟩
  have mr : Bd r 120 := by rw [hr]; exact my.mul mz
  obtain ⟨l, hl⟩ : ∃ vv : Int, vv = xy * z := ⟨_, rfl⟩
  obtain ⟨L, hL⟩ : ∃ vv, vv = dec l := ⟨_, rfl⟩
  have ml : Bd l 121 := by rw [hl]; exact mxy.mul mz
  obtain ⟨xz, hxz⟩ : ∃ vv : Int, vv = x * z := ⟨_, rfl⟩
  obtain ⟨XZ, hXZ⟩ : ∃ vv, vv = dec xz := ⟨_, rfl⟩
  have mxz : Bd xz 120 := by rw [hxz]; exact mx.mul mz
  obtain ⟨d, hd⟩ : ∃ vv : Int, vv = x - y := ⟨_, rfl⟩
  obtain ⟨D, hD⟩ : ∃ vv, vv = dec d := ⟨_, rfl⟩
  have md : Bd d 61 := by rw [hd]; exact mx.sub my
  have fxy := mxy.fits (by decide)
  have fxyz := mxyz.fits (by decide)
  have fyz := myz.fits (by decide)
  have fp := mp.fits (by decide)
  have fpz := mpz.fits (by decide)
  have fr := mr.fits (by decide)
  have fl := ml.fits (by decide)
  have fxz := mxz.fits (by decide)
  have fd := md.fits (by decide)
  have f1 : fits 1 = true := bd_one.fits (by decide)
  have f0 : fits 0 = true := (bd_zero 1).fits (by decide)
  have c1 := fun W => cX W
  have c2 := fun W => cY W
  have c3 := fun W => cZ W
  have c4 := fun W (h : Tab W) => add_at hX hY hXY hxy fx fy fxy W h
  have c5 := fun W (h : Tab W) => add_at hY hX hXY (by rw [hxy, Int.add_comm]) fy fx fxy W h
  have c6 := fun W (h : Tab W) => add_at hXY hZ hXYZ hxyz fxy fz fxyz W h
  have c7 := fun W (h : Tab W) => add_at hY hZ hYZ hyz fy fz fyz W h
  have c8 := fun W (h : Tab W) => add_at hX hYZ hXYZ (by rw [hxyz, hxy, hyz, Int.add_assoc]) fx fyz fxyz W h
  have c9 := fun W (h : Tab W) => mul_at hX hY hP hp fx fy fp W h
  have c10 := fun W (h : Tab W) => mul_at hY hX hP (by rw [hp, Int.mul_comm]) fy fx fp W h
  have c11 := fun W (h : Tab W) => mul_at hP hZ hPZ hpz fp fz fpz W h
  have c12 := fun W (h : Tab W) => mul_at hY hZ hR hr fy fz fr W h
  have c13 := fun W (h : Tab W) => mul_at hX hR hPZ (by rw [hpz, hp, hr, Int.mul_assoc]) fx fr fpz W h
  have c14 := fun W (h : Tab W) => mul_at hXY hZ hL hl fxy fz fl W h
  have c15 := fun W (h : Tab W) => mul_at hX hZ hXZ hxz fx fz fxz W h
  have c16 := fun W (h : Tab W) => add_at hXZ hR hL (by rw [hl, hxy, hxz, hr, Int.add_mul]) fxz fr fl W h
  have c17 := fun W (h : Tab W) => sub_at hX hY hD hd fx fy fd W h
  have c18 := fun W (h : Tab W) => add_at hD hY hX (by rw [hd, Int.sub_add_cancel]) fd fy fx W h
  have c19 := fun W (h : Tab W) => mul_at hX l1 hX (by rw [Int.mul_one]) fx f1 fx W h
  have c20 := fun W (h : Tab W) => mul_at hX l0 l0 (by rw [Int.mul_zero]) fx f0 f0 W h
  have T := Lib.hid ht
  have C1 := Lib.hid c1; have C2 := Lib.hid c2; have C3 := Lib.hid c3; have C4 := Lib.hid c4; have C5 := Lib.hid c5; have C6 := Lib.hid c6; have C7 := Lib.hid c7; have C8 := Lib.hid c8; have C9 := Lib.hid c9; have C10 := Lib.hid c10; have C11 := Lib.hid c11; have C12 := Lib.hid c12; have C13 := Lib.hid c13; have C14 := Lib.hid c14; have C15 := Lib.hid c15; have C16 := Lib.hid c16; have C17 := Lib.hid c17; have C18 := Lib.hid c18; have C19 := Lib.hid c19; have C20 := Lib.hid c20
  clear c1 c2 c3 c4 c5 c6 c7 c8 c9 c10 c11 c12 c13 c14 c15 c16 c17 c18 c19 c20 ht cX cY cZ hX hY hZ mx my mz fx fy fz f1 f0 hxy mxy fxy hXY hxyz mxyz fxyz hXYZ hyz myz fyz hYZ hp mp fp hP hpz mpz fpz hPZ hr mr fr hR hl ml fl hL hxz mxz fxz hXZ hd md fd hD
  go_enter Tryd.func5, Tryd.ntmps5
  go_wp2_with (first
    | (go_at_call 11; (with_reducible refine (sane_any _ T.out).mono ?_); rintro e w1 ⟨rfl, b0⟩)
    | (go_at_call 20; (with_reducible refine (C1.out _).mono ?_); rintro e w2 ⟨rfl, b1⟩; have d1 := below_step b0 b1)
    | (go_at_call 20; (with_reducible refine (C2.out _).mono ?_); rintro e w3 ⟨rfl, b2⟩; have d2 := below_step d1 b2)
    | (go_at_call 20; (with_reducible refine (C3.out _).mono ?_); rintro e w4 ⟨rfl, b3⟩; have d3 := below_step d2 b3)
    | (go_at_call 14; (with_reducible refine (C4.out _ (T.out.below d3)).mono ?_); rintro e w5 ⟨rfl, b4⟩; have d4 := below_step d3 b4)
    | (go_at_call 14; (with_reducible refine (C5.out _ (T.out.below d4)).mono ?_); rintro e w6 ⟨rfl, b5⟩; have d5 := below_step d4 b5)
    | (go_at_call 14; (with_reducible refine (C6.out _ (T.out.below d5)).mono ?_); rintro e w7 ⟨rfl, b6⟩; have d6 := below_step d5 b6)
    | (go_at_call 14; (with_reducible refine (C7.out _ (T.out.below d6)).mono ?_); rintro e w8 ⟨rfl, b7⟩; have d7 := below_step d6 b7)
    | (go_at_call 14; (with_reducible refine (C8.out _ (T.out.below d7)).mono ?_); rintro e w9 ⟨rfl, b8⟩; have d8 := below_step d7 b8)
    | (go_at_call 16; (with_reducible refine (C9.out _ (T.out.below d8)).mono ?_); rintro e w10 ⟨rfl, b9⟩; have d9 := below_step d8 b9)
    | (go_at_call 16; (with_reducible refine (C10.out _ (T.out.below d9)).mono ?_); rintro e w11 ⟨rfl, b10⟩; have d10 := below_step d9 b10)
    | (go_at_call 16; (with_reducible refine (C11.out _ (T.out.below d10)).mono ?_); rintro e w12 ⟨rfl, b11⟩; have d11 := below_step d10 b11)
    | (go_at_call 16; (with_reducible refine (C12.out _ (T.out.below d11)).mono ?_); rintro e w13 ⟨rfl, b12⟩; have d12 := below_step d11 b12)
    | (go_at_call 16; (with_reducible refine (C13.out _ (T.out.below d12)).mono ?_); rintro e w14 ⟨rfl, b13⟩; have d13 := below_step d12 b13)
    | (go_at_call 16; (with_reducible refine (C14.out _ (T.out.below d13)).mono ?_); rintro e w15 ⟨rfl, b14⟩; have d14 := below_step d13 b14)
    | (go_at_call 16; (with_reducible refine (C15.out _ (T.out.below d14)).mono ?_); rintro e w16 ⟨rfl, b15⟩; have d15 := below_step d14 b15)
    | (go_at_call 14; (with_reducible refine (C16.out _ (T.out.below d15)).mono ?_); rintro e w17 ⟨rfl, b16⟩; have d16 := below_step d15 b16)
    | (go_at_call 15; (with_reducible refine (C17.out _ (T.out.below d16)).mono ?_); rintro e w18 ⟨rfl, b17⟩; have d17 := below_step d16 b17)
    | (go_at_call 14; (with_reducible refine (C18.out _ (T.out.below d17)).mono ?_); rintro e w19 ⟨rfl, b18⟩; have d18 := below_step d17 b18)
    | (go_at_call 16; (with_reducible refine (C19.out _ (T.out.below d18)).mono ?_); rintro e w20 ⟨rfl, b19⟩; have d19 := below_step d18 b19)
    | (go_at_call 16; (with_reducible refine (C20.out _ (T.out.below d19)).mono ?_); rintro e w21 ⟨rfl, b20⟩; have d20 := below_step d19 b20)
    | fail)
  go_ret
  exact ⟨rfl, d20⟩

theorem ring_walk (a b c : ByteArray) (w : World) (ht : Tab w) :
    Calls Tryd.prog 5 #[.string a, .string b, .string c] w fun e w' => e = .returned (.bool true) ∧ Below w.heap.size w w' :=
  ring_core a b c _ _ _ _ _ _ (made_at rfl rfl (by decide)) (made_at rfl rfl (by decide)) (made_at rfl rfl (by decide)) rfl (made_bd a 60) rfl (made_bd b 60) rfl (made_bd c 60) w ht
end Go.Proofs.YtnehkoedmcnjoaaDoor
