/- The walk of IntegerRoot. -/
import Derived.Test.YtnehkoedmcnjoaaDoorBd
namespace Go.Proofs.YtnehkoedmcnjoaaDoor
open Go.RowKit

set_option maxRecDepth 100000 in
set_option maxHeartbeats 8000000 in
theorem root_walk_neg (a X : ByteArray) (x : Int) (cX : ∀ W, Calls Tryd.prog 20 #[.string a, .int .i64 80] W fun e w' => e = .returned (.string X) ∧ Below W.heap.size W w') (hX : X = dec x) (mx : Bd x 80) (hx0 : x < 0) (w : World) (ht : Tab w) :
    Calls Tryd.prog 8 #[.string a] w fun e w' => e = .returned (.bool true) ∧ Below w.heap.size w w' := by
  have fx := mx.fits (by decide)
  have f1 : fits 1 = true := bd_one.fits (by decide)
  have f0 : fits 0 = true := (bd_zero 1).fits (by decide)
  obtain ⟨d, hd⟩ : ∃ vv : Int, vv = x * x := ⟨_, rfl⟩
  obtain ⟨D, hD⟩ : ∃ vv, vv = dec d := ⟨_, rfl⟩
  have md : Bd d 160 := by rw [hd]; exact mx.mul mx
  have fd := md.fits (by decide)
  obtain ⟨s, hs⟩ : ∃ vv : Int, vv = -x := ⟨_, rfl⟩
  obtain ⟨S, hS⟩ : ∃ vv, vv = dec s := ⟨_, rfl⟩
  have ms : Bd s 80 := by rw [hs]; exact mx.neg
  have fs := ms.fits (by decide)
  obtain ⟨n, hn⟩ : ∃ n : Nat, d = (n : Int) := ⟨d.natAbs, by rw [hd, Int.natAbs_of_nonneg]; exact mul_self_nn x⟩
  have hrn : s = (rt n : Int) := by rw [hs]; exact rt_neg hx0 (by rw [← hn, hd])
  have hSX0 : ¬ S = X := by rw [hS, hX]; exact dec_ne (by omega)
  have hSX : (S.toList == X.toList) = false := ne_list hSX0
  have c1 := fun W => cX W
  have c2 := fun W (h : Tab W) => root_neg' hX hx0 W h
  have c3 := fun W (h : Tab W) => mul_at hX hX hD hd fx fx fd W h
  have c4 := fun W (h : Tab W) => root_at (hD.trans (by rw [hn])) hS hrn (by rw [← hn]; exact fd) W h
  have c5 := fun W (h : Tab W) => add_at hS hX l0 (by rw [hs]; omega) fs fx f0 W h
  have c6 := fun W => cmp_at hX l0 (cmp_lt hx0) fx f0 W
  have T := Lib.hid ht
  have C1 := Lib.hid c1; have C2 := Lib.hid c2; have C3 := Lib.hid c3; have C4 := Lib.hid c4; have C5 := Lib.hid c5; have C6 := Lib.hid c6
  clear c1 c2 c3 c4 c5 c6 ht cX hX mx fx f1 f0 hx0 hd md fd hD hs ms fs hS hn hrn hSX0
  go_enter Tryd.func8, Tryd.ntmps8
  go_wp2_with (first
    | (go_at_call 11; (with_reducible refine (sane_any _ T.out).mono ?_); rintro e w1 ⟨rfl, b0⟩)
    | (go_at_call 20; (with_reducible refine (C1.out _).mono ?_); rintro e w2 ⟨rfl, b1⟩; have d1 := below_step b0 b1)
    | (go_at_call 22; (with_reducible refine (C2.out _ (T.out.below d1)).mono ?_); rintro e w3 ⟨rfl, b2⟩; have d2 := below_step d1 b2)
    | (go_at_call 16; (with_reducible refine (C3.out _ (T.out.below d2)).mono ?_); rintro e w4 ⟨rfl, b3⟩; have d3 := below_step d2 b3)
    | (go_at_call 22; (with_reducible refine (C4.out _ (T.out.below d3)).mono ?_); rintro e w5 ⟨rfl, b4⟩; have d4 := below_step d3 b4)
    | (go_at_call 14; (with_reducible refine (C5.out _ (T.out.below d4)).mono ?_); rintro e w6 ⟨rfl, b5⟩; have d5 := below_step d4 b5)
    | (go_at_call 17; (with_reducible refine (C6.out _).mono ?_); rintro e w7 ⟨rfl, b6⟩; have d6 := below_step d5 b6)
    | fail)
  go_ret
  exact ⟨rfl, d6⟩

set_option maxRecDepth 100000 in
set_option maxHeartbeats 8000000 in
theorem root_walk_pos (a X : ByteArray) (x : Int) (cX : ∀ W, Calls Tryd.prog 20 #[.string a, .int .i64 80] W fun e w' => e = .returned (.string X) ∧ Below W.heap.size W w') (hX : X = dec x) (mx : Bd x 80) (hx0 : 0 ≤ x) (w : World) (ht : Tab w) :
    Calls Tryd.prog 8 #[.string a] w fun e w' => e = .returned (.bool true) ∧ Below w.heap.size w w' := by
  have fx := mx.fits (by decide)
  have f1 : fits 1 = true := bd_one.fits (by decide)
  have f0 : fits 0 = true := (bd_zero 1).fits (by decide)
  obtain ⟨n, hn⟩ : ∃ n : Nat, x = (n : Int) := ⟨x.natAbs, by omega⟩
  obtain ⟨r, hr⟩ : ∃ vv : Int, vv = (rt n : Int) := ⟨_, rfl⟩
  obtain ⟨R, hR⟩ : ∃ vv, vv = dec r := ⟨_, rfl⟩
  have mr : Bd r 80 := by rw [hr]; exact mx.of_le (by have := rt_le n; omega)
  have fr := mr.fits (by decide)
  obtain ⟨d, hd⟩ : ∃ vv : Int, vv = x * x := ⟨_, rfl⟩
  obtain ⟨D, hD⟩ : ∃ vv, vv = dec d := ⟨_, rfl⟩
  have md : Bd d 160 := by rw [hd]; exact mx.mul mx
  have fd := md.fits (by decide)
  obtain ⟨b, hb⟩ : ∃ vv : Int, vv = x + x := ⟨_, rfl⟩
  obtain ⟨B, hB⟩ : ∃ vv, vv = dec b := ⟨_, rfl⟩
  have mb : Bd b 81 := by rw [hb]; exact mx.add mx
  have fb := mb.fits (by decide)
  obtain ⟨m, hm⟩ : ∃ vv : Int, vv = r * r := ⟨_, rfl⟩
  obtain ⟨M, hM⟩ : ∃ vv, vv = dec m := ⟨_, rfl⟩
  have mm : Bd m 160 := by rw [hm]; exact mr.mul mr
  have fm := mm.fits (by decide)
  obtain ⟨t, ht1⟩ : ∃ vv : Int, vv = r + 1 := ⟨_, rfl⟩
  obtain ⟨T, hT⟩ : ∃ vv, vv = dec t := ⟨_, rfl⟩
  have mt : Bd t 81 := by rw [ht1]; exact mr.add (bd_one.more (by decide))
  have ft := mt.fits (by decide)
  obtain ⟨g, hg⟩ : ∃ vv : Int, vv = t * t := ⟨_, rfl⟩
  obtain ⟨G, hG⟩ : ∃ vv, vv = dec g := ⟨_, rfl⟩
  have mg : Bd g 162 := by rw [hg]; exact mt.mul mt
  have fg := mg.fits (by decide)
  have hr1 : m ≤ x := by rw [hm, hr, hn]; exact_mod_cast (rt_spec n).1
  have hr2 : x < g := by rw [hg, ht1, hr, hn]; exact_mod_cast (rt_spec n).2
  have hdn : d = ((n * n : Nat) : Int) := by rw [hd, hn]; exact_mod_cast rfl
  have hrx : x = (rt (n * n) : Int) := by rw [hn, rt_sq]
  obtain ⟨k, hk⟩ : ∃ vv : Int, vv = cmpI x 0 := ⟨_, rfl⟩
  have ka : (0 : Int) ≤ k := by rw [hk]; exact cmp_ge hx0
  have kb : ¬ k < 0 := by omega
  have kc : ¬ (0 : Int) > k := by omega
  obtain ⟨j, hj⟩ : ∃ vv : Int, vv = cmpI m x := ⟨_, rfl⟩
  have ja : j ≤ (0 : Int) := by rw [hj]; exact cmp_le hr1
  have jb : ¬ (0 : Int) < j := by omega
  have c1 := fun W => cX W
  have c2 := fun W (h : Tab W) => root_at (n := n) (hX.trans (by rw [hn])) hR hr (by rw [← hn]; exact fx) W h
  have c3 := fun W (h : Tab W) => mul_at hX hX hD hd fx fx fd W h
  have c4 := fun W (h : Tab W) => root_at (hD.trans (by rw [hdn])) hX hrx (by rw [← hdn]; exact fd) W h
  have c5 := fun W (h : Tab W) => add_at hX hX hB hb fx fx fb W h
  have c6 := fun W => cmp_at hX l0 hk fx f0 W
  have c7 := fun W (h : Tab W) => mul_at hR hR hM hm fr fr fm W h
  have c8 := fun W (h : Tab W) => add_at hR l1 hT ht1 fr f1 ft W h
  have c9 := fun W (h : Tab W) => mul_at hT hT hG hg ft ft fg W h
  have c10 := fun W => cmp_at hM hX hj fm fx W
  have c11 := fun W => cmp_at hG hX (cmp_gt hr2) fg fx W
  have T := Lib.hid ht
  have C1 := Lib.hid c1; have C2 := Lib.hid c2; have C3 := Lib.hid c3; have C4 := Lib.hid c4; have C5 := Lib.hid c5; have C6 := Lib.hid c6; have C7 := Lib.hid c7; have C8 := Lib.hid c8; have C9 := Lib.hid c9; have C10 := Lib.hid c10; have C11 := Lib.hid c11
  clear c1 c2 c3 c4 c5 c6 c7 c8 c9 c10 c11 ht cX hX mx fx f1 f0 hx0 hn hr1 hr2 hrx hdn hr mr fr hR hd md fd hD hb mb fb hB hm mm fm hM ht1 mt ft hT hg mg fg hG hk hj
  go_enter Tryd.func8, Tryd.ntmps8
  go_wp2_with (first
    | (go_at_call 11; (with_reducible refine (sane_any _ T.out).mono ?_); rintro e w1 ⟨rfl, b0⟩)
    | (go_at_call 20; (with_reducible refine (C1.out _).mono ?_); rintro e w2 ⟨rfl, b1⟩; have d1 := below_step b0 b1)
    | (go_at_call 22; (with_reducible refine (C2.out _ (T.out.below d1)).mono ?_); rintro e w3 ⟨rfl, b2⟩; have d2 := below_step d1 b2)
    | (go_at_call 16; (with_reducible refine (C3.out _ (T.out.below d2)).mono ?_); rintro e w4 ⟨rfl, b3⟩; have d3 := below_step d2 b3)
    | (go_at_call 22; (with_reducible refine (C4.out _ (T.out.below d3)).mono ?_); rintro e w5 ⟨rfl, b4⟩; have d4 := below_step d3 b4)
    | (go_at_call 14; (with_reducible refine (C5.out _ (T.out.below d4)).mono ?_); rintro e w6 ⟨rfl, b5⟩; have d5 := below_step d4 b5)
    | (go_at_call 17; (with_reducible refine (C6.out _).mono ?_); rintro e w7 ⟨rfl, b6⟩; have d6 := below_step d5 b6)
    | (go_at_call 16; (with_reducible refine (C7.out _ (T.out.below d6)).mono ?_); rintro e w8 ⟨rfl, b7⟩; have d7 := below_step d6 b7)
    | (go_at_call 14; (with_reducible refine (C8.out _ (T.out.below d7)).mono ?_); rintro e w9 ⟨rfl, b8⟩; have d8 := below_step d7 b8)
    | (go_at_call 16; (with_reducible refine (C9.out _ (T.out.below d8)).mono ?_); rintro e w10 ⟨rfl, b9⟩; have d9 := below_step d8 b9)
    | (go_at_call 17; (with_reducible refine (C10.out _).mono ?_); rintro e w11 ⟨rfl, b10⟩; have d10 := below_step d9 b10)
    | (go_at_call 17; (with_reducible refine (C11.out _).mono ?_); rintro e w12 ⟨rfl, b11⟩; have d11 := below_step d10 b11)
    | fail)
  go_ret
  exact ⟨rfl, d11⟩

theorem root_walk (a : ByteArray) (w : World) (ht : Tab w) :
    Calls Tryd.prog 8 #[.string a] w fun e w' => e = .returned (.bool true) ∧ Below w.heap.size w w' := by
  rcases Int.lt_or_le (madeZ a 80) 0 with h | h
  · exact root_walk_neg a _ _ (made_at rfl rfl (by decide)) rfl (made_bd a 80) h w ht
  · exact root_walk_pos a _ _ (made_at rfl rfl (by decide)) rfl (made_bd a 80) h w ht
end Go.Proofs.YtnehkoedmcnjoaaDoor
