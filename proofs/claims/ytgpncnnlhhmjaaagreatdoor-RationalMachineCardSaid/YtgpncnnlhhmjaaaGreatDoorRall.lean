/- The reference's Add and Sub. The reference's Mul. The reference's Gcd. The reference's Div. The reference's Compare. The reference's Root, of every string. The reference's FromInt. The reference's ToInt. -/
import Derived.Test.YtgpncnnlhhmjaaaGreatDoorRsu
import Derived.Test.YtgpncnnlhhmjaaaGreatDoorRdi
import Derived.Test.YtgpncnnlhhmjaaaGreatDoorUse
namespace Go.Proofs.YtgpncnnlhhmjaaaGreatDoor
open Go.RowKit

theorem opT_bad (f : Int → Int → Int) {a b : ByteArray} (h : both a b = false) : opT f a b = ⟨#[]⟩ := by rw [opT, h]; rfl
theorem opE_bad (f : Int → Int → Int) {a b : ByteArray} (h : both a b = false) : opE f a b = 30 := by rw [opE, h]; rfl
theorem opT_ok (f : Int → Int → Int) {a b : ByteArray} (h : both a b = true) : opT f a b = outT (f (numB a) (numB b)) := by rw [opT, h, if_pos rfl]
theorem opE_ok (f : Int → Int → Int) {a b : ByteArray} (h : both a b = true) : opE f a b = outE (f (numB a) (numB b)) := by rw [opE, h, if_pos rfl]
theorem both_no1 {a b : ByteArray} (h : validB a.data.toList = false) : both a b = false := by rw [both, h]; rfl
theorem both_no2 {a b : ByteArray} (h : validB b.data.toList = false) : both a b = false := by rw [both, h, Bool.and_false]

set_option maxRecDepth 100000 in
set_option maxHeartbeats 8000000 in
theorem radd_bad1 (a b : ByteArray) (cA : ∀ W, Calls Tryz.prog 58 #[.string a] W fun e w' => e = .returned (.bool false) ∧ Below W.heap.size W w') (w : World) :
    Calls Tryz.prog 48 #[.string a, .string b] w fun e w' => e = .returned (.tuple #[.string ⟨#[]⟩, .int .i64 30]) ∧ Below w.heap.size w w' := by
  have CA := Lib.hid cA
  clear cA
  go_enter Tryz.func48, Tryz.ntmps48
  go_wp2_with (first
    | (go_at_call 58; (with_reducible refine (CA.out _).mono ?_); rintro e w1 ⟨rfl, b1⟩)
    | fail)
  go_ret2
  exact ⟨rfl, b1⟩

set_option maxRecDepth 100000 in
set_option maxHeartbeats 8000000 in
theorem radd_bad2 (a b : ByteArray) (cA : ∀ W, Calls Tryz.prog 58 #[.string a] W fun e w' => e = .returned (.bool true) ∧ Below W.heap.size W w') (cB : ∀ W, Calls Tryz.prog 58 #[.string b] W fun e w' => e = .returned (.bool false) ∧ Below W.heap.size W w') (w : World) :
    Calls Tryz.prog 48 #[.string a, .string b] w fun e w' => e = .returned (.tuple #[.string ⟨#[]⟩, .int .i64 30]) ∧ Below w.heap.size w w' := by
  have CA := Lib.hid cA; have CB := Lib.hid cB
  clear cA cB
  go_enter Tryz.func48, Tryz.ntmps48
  go_wp2_with (first
    | (go_at_call 58; (with_reducible refine (CA.out _).mono ?_); rintro e w1 ⟨rfl, b1⟩)
    | (go_at_call 58; (with_reducible refine (CB.out _).mono ?_); rintro e w2 ⟨rfl, b2⟩; have b12 := below_step b1 b2)
    | fail)
  go_ret2
  exact ⟨rfl, b12⟩

set_option maxRecDepth 100000 in
set_option maxHeartbeats 8000000 in
theorem radd_ok (a b : ByteArray) (x y : Bool) (m n : Nat) (T : ByteArray) (E : Int) (cA : ∀ W, Calls Tryz.prog 58 #[.string a] W fun e w' => e = .returned (.bool true) ∧ Below W.heap.size W w') (cB : ∀ W, Calls Tryz.prog 58 #[.string b] W fun e w' => e = .returned (.bool true) ∧ Below W.heap.size W w') (dA : ∀ W, Calls Tryz.prog 69 #[.string a] W fun e w' => ∃ A L c, e = .returned (.tuple #[.bool x, .slice A L c]) ∧ Dl w' w'.heap.size A L c (dg m) ∧ Below W.heap.size W w') (dB : ∀ W, Calls Tryz.prog 69 #[.string b] W fun e w' => ∃ A L c, e = .returned (.tuple #[.bool y, .slice A L c]) ∧ Dl w' w'.heap.size A L c (dg n) ∧ Below W.heap.size W w') (cS : ∀ (W : World) (A1 A2 : Option Addr) (L1 c1 L2 c2 : Nat), Dl W W.heap.size A1 L1 c1 (dg m) → Dl W W.heap.size A2 L2 c2 (dg n) → Calls Tryz.prog 72 #[.bool x, .slice A1 L1 c1, .bool y, .slice A2 L2 c2] W fun e w' => e = .returned (.tuple #[.string T, .int .i64 E]) ∧ Below W.heap.size W w') (w : World) :
    Calls Tryz.prog 48 #[.string a, .string b] w fun e w' => e = .returned (.tuple #[.string T, .int .i64 E]) ∧ Below w.heap.size w w' := by
  have CA := Lib.hid cA; have CB := Lib.hid cB; have DA := Lib.hid dA; have DB := Lib.hid dB; have CS := Lib.hid cS
  clear cA cB dA dB cS
  go_enter Tryz.func48, Tryz.ntmps48
  go_wp2_with (first
    | (go_at_call 58; (with_reducible refine (CA.out _).mono ?_); rintro e w1 ⟨rfl, b1⟩)
    | (go_at_call 58; (with_reducible refine (CB.out _).mono ?_); rintro e w2 ⟨rfl, b2⟩; have b12 := below_step b1 b2)
    | (go_at_call 69; (with_reducible refine (DA.out _).mono ?_); rintro e w3 ⟨A1, L1, c1, rfl, hD1, b3⟩; have b13 := below_step b12 b3; have HD1 := Lib.hid hD1; clear hD1)
    | (go_at_call 69; (with_reducible refine (DB.out _).mono ?_); rintro e w4 ⟨A2, L2, c2, rfl, hD2, b4⟩; have b14 := below_step b13 b4; have HD2 := Lib.hid hD2; have HD14 := Lib.hid (HD1.out.kept b4); clear hD2)
    | (go_at_call 72; (with_reducible refine (CS.out _ _ _ _ _ _ _ HD14.out HD2.out).mono ?_); rintro e w5 ⟨rfl, b5⟩; have b15 := below_step b14 b5)
    | fail)
  go_ret2
  exact ⟨rfl, b15⟩

theorem radd_any (a b : ByteArray) (ha : a.size ≤ 1000) (hb : b.size ≤ 1000) (w : World) :
    Calls Tryz.prog 48 #[.string a, .string b] w fun e w' => e = .returned (.tuple #[.string (opT (fun x y => x + y) a b), .int .i64 (opE (fun x y => x + y) a b)]) ∧ Below w.heap.size w w' := by
  have cA := fun W => rvalid_any a ha W
  have cB := fun W => rvalid_any b hb W
  cases h1 : validB a.data.toList
  · rw [h1] at cA
    rw [opT_bad _ (both_no1 h1), opE_bad _ (both_no1 h1)]
    exact radd_bad1 a b cA w
  · rw [h1] at cA
    cases h2 : validB b.data.toList
    · rw [h2] at cB
      rw [opT_bad _ (both_no2 h2), opE_bad _ (both_no2 h2)]
      exact radd_bad2 a b cA cB w
    · rw [h2] at cB
      have dA := fun W => rdigits_any a h1 W
      have dB := fun W => rdigits_any b h2 W
      have f1 := fits_abs (fits_num h1)
      have f2 := fits_abs (fits_num h2)
      have hbo : both a b = true := by rw [both, h1, h2]; rfl
      rw [opT_ok _ hbo, opE_ok _ hbo]
      refine radd_ok a b _ _ _ _ _ _ cA cB dA dB (fun W A1 A2 L1 c1 L2 c2 k1 k2 => ?_) w
      have := rsum_any (decide (numB a < 0)) (decide (numB b < 0)) A1 A2 L1 c1 _ L2 c2 _ f1 f2 W k1 k2
      rw [sgn_of, sgn_of] at this
      exact this

set_option maxRecDepth 100000 in
set_option maxHeartbeats 8000000 in
theorem rsub_bad1 (a b : ByteArray) (cA : ∀ W, Calls Tryz.prog 58 #[.string a] W fun e w' => e = .returned (.bool false) ∧ Below W.heap.size W w') (w : World) :
    Calls Tryz.prog 49 #[.string a, .string b] w fun e w' => e = .returned (.tuple #[.string ⟨#[]⟩, .int .i64 30]) ∧ Below w.heap.size w w' := by
  have CA := Lib.hid cA
  clear cA
  go_enter Tryz.func49, Tryz.ntmps49
  go_wp2_with (first
    | (go_at_call 58; (with_reducible refine (CA.out _).mono ?_); rintro e w1 ⟨rfl, b1⟩)
    | fail)
  go_ret2
  exact ⟨rfl, b1⟩

set_option maxRecDepth 100000 in
set_option maxHeartbeats 8000000 in
theorem rsub_bad2 (a b : ByteArray) (cA : ∀ W, Calls Tryz.prog 58 #[.string a] W fun e w' => e = .returned (.bool true) ∧ Below W.heap.size W w') (cB : ∀ W, Calls Tryz.prog 58 #[.string b] W fun e w' => e = .returned (.bool false) ∧ Below W.heap.size W w') (w : World) :
    Calls Tryz.prog 49 #[.string a, .string b] w fun e w' => e = .returned (.tuple #[.string ⟨#[]⟩, .int .i64 30]) ∧ Below w.heap.size w w' := by
  have CA := Lib.hid cA; have CB := Lib.hid cB
  clear cA cB
  go_enter Tryz.func49, Tryz.ntmps49
  go_wp2_with (first
    | (go_at_call 58; (with_reducible refine (CA.out _).mono ?_); rintro e w1 ⟨rfl, b1⟩)
    | (go_at_call 58; (with_reducible refine (CB.out _).mono ?_); rintro e w2 ⟨rfl, b2⟩; have b12 := below_step b1 b2)
    | fail)
  go_ret2
  exact ⟨rfl, b12⟩

set_option maxRecDepth 100000 in
set_option maxHeartbeats 8000000 in
theorem rsub_ok (a b : ByteArray) (x y : Bool) (m n : Nat) (T : ByteArray) (E : Int) (cA : ∀ W, Calls Tryz.prog 58 #[.string a] W fun e w' => e = .returned (.bool true) ∧ Below W.heap.size W w') (cB : ∀ W, Calls Tryz.prog 58 #[.string b] W fun e w' => e = .returned (.bool true) ∧ Below W.heap.size W w') (dA : ∀ W, Calls Tryz.prog 69 #[.string a] W fun e w' => ∃ A L c, e = .returned (.tuple #[.bool x, .slice A L c]) ∧ Dl w' w'.heap.size A L c (dg m) ∧ Below W.heap.size W w') (dB : ∀ W, Calls Tryz.prog 69 #[.string b] W fun e w' => ∃ A L c, e = .returned (.tuple #[.bool y, .slice A L c]) ∧ Dl w' w'.heap.size A L c (dg n) ∧ Below W.heap.size W w') (cS : ∀ (W : World) (A1 A2 : Option Addr) (L1 c1 L2 c2 : Nat), Dl W W.heap.size A1 L1 c1 (dg m) → Dl W W.heap.size A2 L2 c2 (dg n) → Calls Tryz.prog 72 #[.bool x, .slice A1 L1 c1, .bool !y, .slice A2 L2 c2] W fun e w' => e = .returned (.tuple #[.string T, .int .i64 E]) ∧ Below W.heap.size W w') (w : World) :
    Calls Tryz.prog 49 #[.string a, .string b] w fun e w' => e = .returned (.tuple #[.string T, .int .i64 E]) ∧ Below w.heap.size w w' := by
  have CA := Lib.hid cA; have CB := Lib.hid cB; have DA := Lib.hid dA; have DB := Lib.hid dB; have CS := Lib.hid cS
  clear cA cB dA dB cS
  go_enter Tryz.func49, Tryz.ntmps49
  go_wp2_with (first
    | (go_at_call 58; (with_reducible refine (CA.out _).mono ?_); rintro e w1 ⟨rfl, b1⟩)
    | (go_at_call 58; (with_reducible refine (CB.out _).mono ?_); rintro e w2 ⟨rfl, b2⟩; have b12 := below_step b1 b2)
    | (go_at_call 69; (with_reducible refine (DA.out _).mono ?_); rintro e w3 ⟨A1, L1, c1, rfl, hD1, b3⟩; have b13 := below_step b12 b3; have HD1 := Lib.hid hD1; clear hD1)
    | (go_at_call 69; (with_reducible refine (DB.out _).mono ?_); rintro e w4 ⟨A2, L2, c2, rfl, hD2, b4⟩; have b14 := below_step b13 b4; have HD2 := Lib.hid hD2; have HD14 := Lib.hid (HD1.out.kept b4); clear hD2)
    | (go_at_call 72; (with_reducible refine (CS.out _ _ _ _ _ _ _ HD14.out HD2.out).mono ?_); rintro e w5 ⟨rfl, b5⟩; have b15 := below_step b14 b5)
    | fail)
  go_ret2
  exact ⟨rfl, b15⟩

theorem rsub_any (a b : ByteArray) (ha : a.size ≤ 1000) (hb : b.size ≤ 1000) (w : World) :
    Calls Tryz.prog 49 #[.string a, .string b] w fun e w' => e = .returned (.tuple #[.string (opT (fun x y => x - y) a b), .int .i64 (opE (fun x y => x - y) a b)]) ∧ Below w.heap.size w w' := by
  have cA := fun W => rvalid_any a ha W
  have cB := fun W => rvalid_any b hb W
  cases h1 : validB a.data.toList
  · rw [h1] at cA
    rw [opT_bad _ (both_no1 h1), opE_bad _ (both_no1 h1)]
    exact rsub_bad1 a b cA w
  · rw [h1] at cA
    cases h2 : validB b.data.toList
    · rw [h2] at cB
      rw [opT_bad _ (both_no2 h2), opE_bad _ (both_no2 h2)]
      exact rsub_bad2 a b cA cB w
    · rw [h2] at cB
      have dA := fun W => rdigits_any a h1 W
      have dB := fun W => rdigits_any b h2 W
      have f1 := fits_abs (fits_num h1)
      have f2 := fits_abs (fits_num h2)
      have hbo : both a b = true := by rw [both, h1, h2]; rfl
      rw [opT_ok _ hbo, opE_ok _ hbo]
      refine rsub_ok a b _ _ _ _ _ _ cA cB dA dB (fun W A1 A2 L1 c1 L2 c2 k1 k2 => ?_) w
      have := rsum_any (decide (numB a < 0)) (!decide (numB b < 0)) A1 A2 L1 c1 _ L2 c2 _ f1 f2 W k1 k2
      rw [sgn_not, sgn_of, sgn_of, ← Int.sub_eq_add_neg] at this
      exact this

end Go.Proofs.YtgpncnnlhhmjaaaGreatDoor
namespace Go.Proofs.YtgpncnnlhhmjaaaGreatDoor
open Go.RowKit

theorem len_times {m n p q : Nat} (h1 : m < 10 ^ p) (h2 : n < 10 ^ q) : (dg (m * n)).length ≤ p + q := dg_len_lt (by rw [Nat.pow_add]; exact Nat.mul_lt_mul'' h1 h2)

set_option maxRecDepth 100000 in
set_option maxHeartbeats 8000000 in
theorem rmul_bad1 (a b : ByteArray) (cA : ∀ W, Calls Tryz.prog 58 #[.string a] W fun e w' => e = .returned (.bool false) ∧ Below W.heap.size W w') (w : World) :
    Calls Tryz.prog 44 #[.string a, .string b] w fun e w' => e = .returned (.tuple #[.string ⟨#[]⟩, .int .i64 30]) ∧ Below w.heap.size w w' := by
  have CA := Lib.hid cA
  clear cA
  go_enter Tryz.func44, Tryz.ntmps44
  go_wp2_with (first
    | (go_at_call 58; (with_reducible refine (CA.out _).mono ?_); rintro e w1 ⟨rfl, b1⟩)
    | fail)
  go_ret2
  exact ⟨rfl, b1⟩

set_option maxRecDepth 100000 in
set_option maxHeartbeats 8000000 in
theorem rmul_bad2 (a b : ByteArray) (cA : ∀ W, Calls Tryz.prog 58 #[.string a] W fun e w' => e = .returned (.bool true) ∧ Below W.heap.size W w') (cB : ∀ W, Calls Tryz.prog 58 #[.string b] W fun e w' => e = .returned (.bool false) ∧ Below W.heap.size W w') (w : World) :
    Calls Tryz.prog 44 #[.string a, .string b] w fun e w' => e = .returned (.tuple #[.string ⟨#[]⟩, .int .i64 30]) ∧ Below w.heap.size w w' := by
  have CA := Lib.hid cA; have CB := Lib.hid cB
  clear cA cB
  go_enter Tryz.func44, Tryz.ntmps44
  go_wp2_with (first
    | (go_at_call 58; (with_reducible refine (CA.out _).mono ?_); rintro e w1 ⟨rfl, b1⟩)
    | (go_at_call 58; (with_reducible refine (CB.out _).mono ?_); rintro e w2 ⟨rfl, b2⟩; have b12 := below_step b1 b2)
    | fail)
  go_ret2
  exact ⟨rfl, b12⟩

set_option maxRecDepth 100000 in
set_option maxHeartbeats 8000000 in
theorem rmul_ok (a b : ByteArray) (x y : Bool) (m n : Nat) (z : Bool) (hz : (!(x == y)) = z) (T : ByteArray) (E : Int) (cA : ∀ W, Calls Tryz.prog 58 #[.string a] W fun e w' => e = .returned (.bool true) ∧ Below W.heap.size W w') (cB : ∀ W, Calls Tryz.prog 58 #[.string b] W fun e w' => e = .returned (.bool true) ∧ Below W.heap.size W w') (dA : ∀ W, Calls Tryz.prog 69 #[.string a] W fun e w' => ∃ A L c, e = .returned (.tuple #[.bool x, .slice A L c]) ∧ Dl w' w'.heap.size A L c (dg m) ∧ Below W.heap.size W w') (dB : ∀ W, Calls Tryz.prog 69 #[.string b] W fun e w' => ∃ A L c, e = .returned (.tuple #[.bool y, .slice A L c]) ∧ Dl w' w'.heap.size A L c (dg n) ∧ Below W.heap.size W w') (cM : ∀ (W : World) (A1 A2 : Option Addr) (L1 c1 L2 c2 : Nat), Dl W W.heap.size A1 L1 c1 (dg m) → Dl W W.heap.size A2 L2 c2 (dg n) → Calls Tryz.prog 71 #[.slice A1 L1 c1, .slice A2 L2 c2] W fun e w' => ∃ A L c, e = .returned (.slice A L c) ∧ Dl w' w'.heap.size A L c (dg (m * n)) ∧ Far W.heap.size A ∧ Below W.heap.size W w') (cC : ∀ (W : World) (A : Option Addr) (L c : Nat), Dl W W.heap.size A L c (dg (m * n)) → Calls Tryz.prog 70 #[.bool z, .slice A L c] W fun e w' => e = .returned (.tuple #[.string T, .int .i64 E]) ∧ Below W.heap.size W w') (w : World) :
    Calls Tryz.prog 44 #[.string a, .string b] w fun e w' => e = .returned (.tuple #[.string T, .int .i64 E]) ∧ Below w.heap.size w w' := by
  have CA := Lib.hid cA; have CB := Lib.hid cB; have DA := Lib.hid dA; have DB := Lib.hid dB; have CM := Lib.hid cM; have CC := Lib.hid cC
  clear cA cB dA dB cM cC
  go_enter Tryz.func44, Tryz.ntmps44
  go_wp2_with (first
    | (go_at_call 58; (with_reducible refine (CA.out _).mono ?_); rintro e w1 ⟨rfl, b1⟩)
    | (go_at_call 58; (with_reducible refine (CB.out _).mono ?_); rintro e w2 ⟨rfl, b2⟩; have b12 := below_step b1 b2)
    | (go_at_call 69; (with_reducible refine (DA.out _).mono ?_); rintro e w3 ⟨A1, L1, c1, rfl, hD1, b3⟩; have b13 := below_step b12 b3; have HD1 := Lib.hid hD1; clear hD1)
    | (go_at_call 69; (with_reducible refine (DB.out _).mono ?_); rintro e w4 ⟨A2, L2, c2, rfl, hD2, b4⟩; have b14 := below_step b13 b4; have HD2 := Lib.hid hD2; have HD14 := Lib.hid (HD1.out.kept b4); clear hD2)
    | (go_at_call 71; (with_reducible refine (CM.out _ _ _ _ _ _ _ HD14.out HD2.out).mono ?_); rintro e w5 ⟨A3, L3, c3, rfl, hD3, hF3, b5⟩; have b15 := below_step b14 b5; have HD3 := Lib.hid hD3; clear hD3 hF3)
    | (go_at_call 70; (with_reducible refine (CC.out _ _ _ _ HD3.out).mono ?_); rintro e w6 ⟨rfl, b6⟩; have b16 := below_step b15 b6)
    | fail)
  go_ret2
  exact ⟨rfl, b16⟩

theorem rmul_any (a b : ByteArray) (ha : a.size ≤ 1000) (hb : b.size ≤ 1000) (w : World) :
    Calls Tryz.prog 44 #[.string a, .string b] w fun e w' => e = .returned (.tuple #[.string (opT (fun x y => x * y) a b), .int .i64 (opE (fun x y => x * y) a b)]) ∧ Below w.heap.size w w' := by
  have cA := fun W => rvalid_any a ha W
  have cB := fun W => rvalid_any b hb W
  cases h1 : validB a.data.toList
  · rw [h1] at cA
    rw [opT_bad _ (both_no1 h1), opE_bad _ (both_no1 h1)]
    exact rmul_bad1 a b cA w
  · rw [h1] at cA
    cases h2 : validB b.data.toList
    · rw [h2] at cB
      rw [opT_bad _ (both_no2 h2), opE_bad _ (both_no2 h2)]
      exact rmul_bad2 a b cA cB w
    · rw [h2] at cB
      have dA := fun W => rdigits_any a h1 W
      have dB := fun W => rdigits_any b h2 W
      have f1 := fits_abs (fits_num h1)
      have f2 := fits_abs (fits_num h2)
      have hbo : both a b = true := by rw [both, h1, h2]; rfl
      rw [opT_ok _ hbo, opE_ok _ hbo]
      have e9 : sgn (decide (numB a < 0) != decide (numB b < 0)) ((numB a).natAbs * (numB b).natAbs) = numB a * numB b := by rw [sgn_mul, sgn_of, sgn_of]
      rw [← e9]
      have l9 : (dg ((numB a).natAbs * (numB b).natAbs)).length ≤ 200 + 200 := len_times f1 f2
      have la := fun (W : World) (B : Nat) (A : Option Addr) (L c k : Nat) (hk : k < 10 ^ 200) (h : Dl W B A L c (dg k)) => show L ≤ 400 by rw [h.len]; exact Nat.le_trans (dg_len_lt hk) (by decide)
      exact rmul_ok a b _ _ _ _ _ rfl _ _ cA cB dA dB (fun W A1 A2 L1 c1 L2 c2 k1 k2 => rtimes_any A1 A2 L1 c1 _ L2 c2 _ (la _ _ _ _ _ _ f1 k1) (la _ _ _ _ _ _ f2 k2) W k1 k2) (fun W A L c k => rcheck_any _ A L c _ (by rw [k.len]; omega) W k) w
end Go.Proofs.YtgpncnnlhhmjaaaGreatDoor
namespace Go.Proofs.YtgpncnnlhhmjaaaGreatDoor
open Go.RowKit

theorem gcd_less {m n k : Nat} (h1 : m < k) (h2 : n < k) : Nat.gcd m n < k := by
  rcases Nat.eq_zero_or_pos m with h | h
  · rw [h, Nat.gcd_zero_left]; exact h2
  · exact Nat.lt_of_le_of_lt (Nat.gcd_le_left n h) h1

set_option maxRecDepth 100000 in
set_option maxHeartbeats 8000000 in
theorem rgcd_bad1 (a b : ByteArray) (cA : ∀ W, Calls Tryz.prog 58 #[.string a] W fun e w' => e = .returned (.bool false) ∧ Below W.heap.size W w') (w : World) :
    Calls Tryz.prog 59 #[.string a, .string b] w fun e w' => e = .returned (.tuple #[.string ⟨#[]⟩, .int .i64 30]) ∧ Below w.heap.size w w' := by
  have CA := Lib.hid cA
  clear cA
  go_enter Tryz.func59, Tryz.ntmps59
  go_wp2_with (first
    | (go_at_call 58; (with_reducible refine (CA.out _).mono ?_); rintro e w1 ⟨rfl, b1⟩)
    | fail)
  go_ret2
  exact ⟨rfl, b1⟩

set_option maxRecDepth 100000 in
set_option maxHeartbeats 8000000 in
theorem rgcd_bad2 (a b : ByteArray) (cA : ∀ W, Calls Tryz.prog 58 #[.string a] W fun e w' => e = .returned (.bool true) ∧ Below W.heap.size W w') (cB : ∀ W, Calls Tryz.prog 58 #[.string b] W fun e w' => e = .returned (.bool false) ∧ Below W.heap.size W w') (w : World) :
    Calls Tryz.prog 59 #[.string a, .string b] w fun e w' => e = .returned (.tuple #[.string ⟨#[]⟩, .int .i64 30]) ∧ Below w.heap.size w w' := by
  have CA := Lib.hid cA; have CB := Lib.hid cB
  clear cA cB
  go_enter Tryz.func59, Tryz.ntmps59
  go_wp2_with (first
    | (go_at_call 58; (with_reducible refine (CA.out _).mono ?_); rintro e w1 ⟨rfl, b1⟩)
    | (go_at_call 58; (with_reducible refine (CB.out _).mono ?_); rintro e w2 ⟨rfl, b2⟩; have b12 := below_step b1 b2)
    | fail)
  go_ret2
  exact ⟨rfl, b12⟩

set_option maxRecDepth 100000 in
set_option maxHeartbeats 8000000 in
theorem rgcd_ok (a b : ByteArray) (x y : Bool) (m n : Nat) (hm : m < 10 ^ 200) (hn : n < 10 ^ 200) (T : ByteArray) (E : Int) (cA : ∀ W, Calls Tryz.prog 58 #[.string a] W fun e w' => e = .returned (.bool true) ∧ Below W.heap.size W w') (cB : ∀ W, Calls Tryz.prog 58 #[.string b] W fun e w' => e = .returned (.bool true) ∧ Below W.heap.size W w') (dA : ∀ W, Calls Tryz.prog 69 #[.string a] W fun e w' => ∃ A L c, e = .returned (.tuple #[.bool x, .slice A L c]) ∧ Dl w' w'.heap.size A L c (dg m) ∧ Below W.heap.size W w') (dB : ∀ W, Calls Tryz.prog 69 #[.string b] W fun e w' => ∃ A L c, e = .returned (.tuple #[.bool y, .slice A L c]) ∧ Dl w' w'.heap.size A L c (dg n) ∧ Below W.heap.size W w') (cC : ∀ (W : World) (A : Option Addr) (L c : Nat), Dl W W.heap.size A L c (dg (Nat.gcd m n)) → Calls Tryz.prog 70 #[.bool false, .slice A L c] W fun e w' => e = .returned (.tuple #[.string T, .int .i64 E]) ∧ Below W.heap.size W w') (w : World) :
    Calls Tryz.prog 59 #[.string a, .string b] w fun e w' => e = .returned (.tuple #[.string T, .int .i64 E]) ∧ Below w.heap.size w w' := by
  have CA := Lib.hid cA; have CB := Lib.hid cB; have DA := Lib.hid dA; have DB := Lib.hid dB; have CC := Lib.hid cC; have HM := Lib.hid hm; have HN := Lib.hid hn
  clear cA cB dA dB cC hm hn
  go_enter Tryz.func59, Tryz.ntmps59
  go_wp2_with (first
    | (go_at_call 58; (with_reducible refine (CA.out _).mono ?_); rintro e w1 ⟨rfl, b1⟩)
    | (go_at_call 58; (with_reducible refine (CB.out _).mono ?_); rintro e w2 ⟨rfl, b2⟩; have b12 := below_step b1 b2)
    | (go_at_call 69; (with_reducible refine (DA.out _).mono ?_); rintro e w3 ⟨A1, L1, c1, rfl, hD1, b3⟩; have b13 := below_step b12 b3; have HD1 := Lib.hid hD1; clear hD1)
    | (go_at_call 69; (with_reducible refine (DB.out _).mono ?_); rintro e w4 ⟨A2, L2, c2, rfl, hD2, b4⟩; have b14 := below_step b13 b4; have HD2 := Lib.hid hD2; have HD14 := Lib.hid (HD1.out.kept b4); clear hD2)
    | fail)
  have HB14 := Lib.hid b14
  clear b1 b2 b12 b3 b13 b4 b14
  go_loopg [7, 9] n (fun kx vk vl wr => ∃ (p q : Nat) (Ak : Option Addr) (Lk ck : Nat) (Al : Option Addr) (Ll cl : Nat), vk = .slice Ak Lk ck ∧ vl = .slice Al Ll cl ∧ q ≤ kx ∧ Hid (p < 10 ^ 200 ∧ q < 10 ^ 200 ∧ Nat.gcd p q = Nat.gcd m n) ∧ Dl wr wr.heap.size Ak Lk ck (dg p) ∧ Dl wr wr.heap.size Al Ll cl (dg q) ∧ Below w.heap.size w wr)
  case atStart => exact ⟨m, n, A1, L1, c1, A2, L2, c2, rfl, rfl, Nat.le_refl _, Lib.hid ⟨HM.out, HN.out, rfl⟩, HD14.out, HD2.out, HB14.out⟩
  case round =>
    obtain ⟨p, q, Ak, Lk, ck, Al, Ll, cl, rfl, rfl, hkx, HG, hk, hl, hbr⟩ := hrel
    have lk : Lk ≤ 200 := by rw [hk.len]; exact dg_len_lt HG.out.1
    have ll : Ll ≤ 200 := by rw [hl.len]; exact dg_len_lt HG.out.2.1
    have HBR := Lib.hid hbr
    by_cases h0 : q = 0
    · subst h0
      have hl0 : (Ll : Int) = 0 := by rw [hl.len, dg_zero]; rfl
      have e : p = Nat.gcd m n := by rw [← HG.out.2.2, Nat.gcd_zero_right]
      rw [e] at hk
      have HK := Lib.hid hk
      clear hk hl hbr e hkx HG lk ll
      go_wp2_with (first
        | (go_at_call 70; (with_reducible refine (CC.out _ _ _ _ HK.out).mono ?_); rintro e w5 ⟨rfl, b5⟩)
        | fail)
      go_ret2
      exact ⟨rfl, below_step HBR.out b5⟩
    · have hq : 0 < q := by omega
      have hl0 : (0 : Int) < (Ll : Int) := by
        have := (dg_in q 0).2 (by rw [Nat.pow_zero, Nat.div_one]; exact hq)
        rw [hl.len]; omega
      have cD := rdiv_any Ak Al Lk ck p Ll cl q hq (by omega) (by omega) wr hk hl
      have hlt := Nat.mod_lt p hq
      have hgc : Nat.gcd q (p % q) = Nat.gcd m n := by rw [← HG.out.2.2, Nat.gcd_comm q, ← Nat.gcd_rec, Nat.gcd_comm]
      have hG2 : q < 10 ^ 200 ∧ p % q < 10 ^ 200 ∧ Nat.gcd q (p % q) = Nat.gcd m n := ⟨HG.out.2.1, Nat.lt_trans hlt HG.out.2.1, hgc⟩
      have HG2 := Lib.hid hG2; have HL := Lib.hid hl; have CD := Lib.hid cD
      have hmeas : Hid (p % q < gk) := Lib.hid (by omega)
      clear hk hl hbr cD hgc hG2 hlt hkx HG hq lk ll
      go_wp2_with (first
        | (go_at_call 78; (with_reducible refine CD.out.mono ?_); rintro e w5 ⟨A3, L3, c3, A4, L4, c4, rfl, hD3, hD4, b5⟩; have HD4 := Lib.hid hD4; clear hD3 hD4)
        | fail)
      go_roundg (p % q)
      case measure => exact hmeas.out
      case rel => exact ⟨q, p % q, Al, Ll, cl, A4, L4, c4, rfl, rfl, Nat.le_refl _, HG2, HL.out.kept b5, HD4.out, below_step HBR.out b5⟩

theorem rgcd_any (a b : ByteArray) (ha : a.size ≤ 1000) (hb : b.size ≤ 1000) (w : World) :
    Calls Tryz.prog 59 #[.string a, .string b] w fun e w' => e = .returned (.tuple #[.string (opT (fun x y => (Int.gcd x y : Int)) a b), .int .i64 (opE (fun x y => (Int.gcd x y : Int)) a b)]) ∧ Below w.heap.size w w' := by
  have cA := fun W => rvalid_any a ha W
  have cB := fun W => rvalid_any b hb W
  cases h1 : validB a.data.toList
  · rw [h1] at cA
    rw [opT_bad _ (both_no1 h1), opE_bad _ (both_no1 h1)]
    exact rgcd_bad1 a b cA w
  · rw [h1] at cA
    cases h2 : validB b.data.toList
    · rw [h2] at cB
      rw [opT_bad _ (both_no2 h2), opE_bad _ (both_no2 h2)]
      exact rgcd_bad2 a b cA cB w
    · rw [h2] at cB
      have dA := fun W => rdigits_any a h1 W
      have dB := fun W => rdigits_any b h2 W
      have f1 := fits_abs (fits_num h1)
      have f2 := fits_abs (fits_num h2)
      have hbo : both a b = true := by rw [both, h1, h2]; rfl
      rw [opT_ok _ hbo, opE_ok _ hbo]
      have e9 : (Int.gcd (numB a) (numB b) : Int) = sgn false (Nat.gcd (numB a).natAbs (numB b).natAbs) := rfl
      rw [e9]
      have l9 := dg_len_lt (gcd_less f1 f2)
      exact rgcd_ok a b _ _ _ _ f1 f2 _ _ cA cB dA dB (fun W A L c k => rcheck_any _ A L c _ (by rw [k.len]; omega) W k) w
end Go.Proofs.YtgpncnnlhhmjaaaGreatDoor
namespace Go.Proofs.YtgpncnnlhhmjaaaGreatDoor
open Go.RowKit

theorem one_dl (W : World) : Dl (W.alloc (.cells #[.int .i64 1] 3)) (W.alloc (.cells #[.int .i64 1] 3)).heap.size (some ⟨W.heap.size, 0, none⟩) 1 1 (dg 1) := by
  obtain ⟨A, c, e, hD⟩ := own_dl [1] rfl (own_oneI W 0 (Nat.zero_le _) 1)
  cases e
  rw [dg_one (by decide) (by decide)]
  exact hD
theorem divOk_zero {a b : ByteArray} (h : numB b = 0) : divOk a b = false := by rw [divOk, h]; simp
theorem divOk_not {a b : ByteArray} (h : both a b = false) : divOk a b = false := by rw [divOk, h]; rfl
theorem divOk_is {a b : ByteArray} (h : both a b = true) (h0 : numB b ≠ 0) : divOk a b = true := by rw [divOk, h, decide_eq_true h0]; rfl
theorem divQ_no {a b : ByteArray} (h : divOk a b = false) : divQ a b = ⟨#[]⟩ := by rw [divQ, h]; rfl
theorem divR_no {a b : ByteArray} (h : divOk a b = false) : divR a b = ⟨#[]⟩ := by rw [divR, h]; rfl
theorem divE_no {a b : ByteArray} (h : divOk a b = false) : divE a b = 30 := by rw [divE, h]; rfl
theorem divQ_is {a b : ByteArray} (h : divOk a b = true) : divQ a b = dec (numB a / numB b) := by rw [divQ, h, if_pos rfl]
theorem divR_is {a b : ByteArray} (h : divOk a b = true) : divR a b = dec (numB a % numB b) := by rw [divR, h, if_pos rfl]
theorem divE_is {a b : ByteArray} (h : divOk a b = true) : divE a b = 0 := by rw [divE, h]; rfl

set_option maxRecDepth 100000 in
set_option maxHeartbeats 8000000 in
theorem rquo_bad1 (a b : ByteArray) (cA : ∀ W, Calls Tryz.prog 58 #[.string a] W fun e w' => e = .returned (.bool false) ∧ Below W.heap.size W w') (w : World) :
    Calls Tryz.prog 52 #[.string a, .string b] w fun e w' => e = .returned (.tuple #[.string ⟨#[]⟩, .string ⟨#[]⟩, .int .i64 30]) ∧ Below w.heap.size w w' := by
  have CA := Lib.hid cA
  clear cA
  go_enter Tryz.func52, Tryz.ntmps52
  go_wp2_with (first
    | (go_at_call 58; (with_reducible refine (CA.out _).mono ?_); rintro e w1 ⟨rfl, b1⟩)
    | fail)
  go_ret3
  exact ⟨rfl, b1⟩

set_option maxRecDepth 100000 in
set_option maxHeartbeats 8000000 in
theorem rquo_bad2 (a b : ByteArray) (cA : ∀ W, Calls Tryz.prog 58 #[.string a] W fun e w' => e = .returned (.bool true) ∧ Below W.heap.size W w') (cB : ∀ W, Calls Tryz.prog 58 #[.string b] W fun e w' => e = .returned (.bool false) ∧ Below W.heap.size W w') (w : World) :
    Calls Tryz.prog 52 #[.string a, .string b] w fun e w' => e = .returned (.tuple #[.string ⟨#[]⟩, .string ⟨#[]⟩, .int .i64 30]) ∧ Below w.heap.size w w' := by
  have CA := Lib.hid cA; have CB := Lib.hid cB
  clear cA cB
  go_enter Tryz.func52, Tryz.ntmps52
  go_wp2_with (first
    | (go_at_call 58; (with_reducible refine (CA.out _).mono ?_); rintro e w1 ⟨rfl, b1⟩)
    | (go_at_call 58; (with_reducible refine (CB.out _).mono ?_); rintro e w2 ⟨rfl, b2⟩; have b12 := below_step b1 b2)
    | fail)
  go_ret3
  exact ⟨rfl, b12⟩

set_option maxRecDepth 100000 in
set_option maxHeartbeats 8000000 in
theorem rquo_zero (a : ByteArray) (cA : ∀ W, Calls Tryz.prog 58 #[.string a] W fun e w' => e = .returned (.bool true) ∧ Below W.heap.size W w') (cB : ∀ W, Calls Tryz.prog 58 #[.string ⟨#[48]⟩] W fun e w' => e = .returned (.bool true) ∧ Below W.heap.size W w') (w : World) :
    Calls Tryz.prog 52 #[.string a, .string ⟨#[48]⟩] w fun e w' => e = .returned (.tuple #[.string ⟨#[]⟩, .string ⟨#[]⟩, .int .i64 30]) ∧ Below w.heap.size w w' := by
  have CA := Lib.hid cA; have CB := Lib.hid cB
  clear cA cB
  go_enter Tryz.func52, Tryz.ntmps52
  go_wp2_with (first
    | (go_at_call 58; (with_reducible refine (CA.out _).mono ?_); rintro e w1 ⟨rfl, b1⟩)
    | (go_at_call 58; (with_reducible refine (CB.out _).mono ?_); rintro e w2 ⟨rfl, b2⟩; have b12 := below_step b1 b2)
    | fail)
  go_ret3
  exact ⟨rfl, b12⟩

set_option maxRecDepth 100000 in
set_option maxHeartbeats 8000000 in
theorem rquo_f (a b : ByteArray) (y : Bool) (m n : Nat) (hn : 0 < n) (f1 : m < 10 ^ 200) (f2 : n < 10 ^ 200) (hb0 : (b.toList == [48]) = false) (T S : ByteArray) (cA : ∀ W, Calls Tryz.prog 58 #[.string a] W fun e w' => e = .returned (.bool true) ∧ Below W.heap.size W w') (cB : ∀ W, Calls Tryz.prog 58 #[.string b] W fun e w' => e = .returned (.bool true) ∧ Below W.heap.size W w') (dA : ∀ W, Calls Tryz.prog 69 #[.string a] W fun e w' => ∃ A L c, e = .returned (.tuple #[.bool false, .slice A L c]) ∧ Dl w' w'.heap.size A L c (dg m) ∧ Below W.heap.size W w') (dB : ∀ W, Calls Tryz.prog 69 #[.string b] W fun e w' => ∃ A L c, e = .returned (.tuple #[.bool y, .slice A L c]) ∧ Dl w' w'.heap.size A L c (dg n) ∧ Below W.heap.size W w') (cC : ∀ (W : World) (A : Option Addr) (L c : Nat), Dl W W.heap.size A L c (dg (m / n)) → Calls Tryz.prog 70 #[.bool y, .slice A L c] W fun e w' => e = .returned (.tuple #[.string T, .int .i64 0]) ∧ Below W.heap.size W w') (cX : ∀ (W : World) (A : Option Addr) (L c : Nat), Dl W W.heap.size A L c (dg (m % n)) → Calls Tryz.prog 68 #[.bool false, .slice A L c] W fun e w' => e = .returned (.tuple #[.string S, .bool true]) ∧ Below W.heap.size W w') (w : World) :
    Calls Tryz.prog 52 #[.string a, .string b] w fun e w' => e = .returned (.tuple #[.string T, .string S, .int .i64 0]) ∧ Below w.heap.size w w' := by
  have la := fun (W : World) (B : Nat) (A : Option Addr) (L c k : Nat) (hk : k < 10 ^ 200) (h : Dl W B A L c (dg k)) => show L ≤ 200 by rw [h.len]; exact dg_len_lt hk
  have cD : ∀ (W : World) (A1 A2 : Option Addr) (L1 c1 L2 c2 : Nat), Dl W W.heap.size A1 L1 c1 (dg m) → Dl W W.heap.size A2 L2 c2 (dg n) → Calls Tryz.prog 78 #[.slice A1 L1 c1, .slice A2 L2 c2] W fun e w' => ∃ A L c A' L' c', e = .returned (.tuple #[.slice A L c, .slice A' L' c']) ∧ Dl w' w'.heap.size A L c (dg (m / n)) ∧ Dl w' w'.heap.size A' L' c' (dg (m % n)) ∧ Below W.heap.size W w' := fun W A1 A2 L1 c1 L2 c2 k1 k2 => rdiv_any A1 A2 L1 c1 m L2 c2 n hn (Nat.le_trans (la _ _ _ _ _ _ f1 k1) (by decide)) (Nat.le_trans (la _ _ _ _ _ _ f2 k2) (by decide)) W k1 k2
  have CA := Lib.hid cA; have CB := Lib.hid cB; have DA := Lib.hid dA; have DB := Lib.hid dB; have CC := Lib.hid cC; have CX := Lib.hid cX; have CD := Lib.hid cD
  clear cA cB dA dB cC cX cD la hn f1 f2
  go_enter Tryz.func52, Tryz.ntmps52
  go_wp2_with (first
    | (go_at_call 58; (with_reducible refine (CA.out _).mono ?_); rintro e w1 ⟨rfl, b1⟩)
    | (go_at_call 58; (with_reducible refine (CB.out _).mono ?_); rintro e w2 ⟨rfl, b2⟩; have b12 := below_step b1 b2)
    | (go_at_call 69; (with_reducible refine (DA.out _).mono ?_); rintro e w3 ⟨A1, L1, c1, rfl, hD1, b3⟩; have b13 := below_step b12 b3; have HD1 := Lib.hid hD1; clear hD1)
    | (go_at_call 69; (with_reducible refine (DB.out _).mono ?_); rintro e w4 ⟨A2, L2, c2, rfl, hD2, b4⟩; have b14 := below_step b13 b4; have HD2 := Lib.hid hD2; have HD14 := Lib.hid (HD1.out.kept b4); clear hD2)
    | (go_at_call 78; (with_reducible refine (CD.out _ _ _ _ _ _ _ HD14.out HD2.out).mono ?_); rintro e w5 ⟨A3, L3, c3, A4, L4, c4, rfl, hD3, hD4, b5⟩; have b15 := below_step b14 b5; have HD3 := Lib.hid hD3; have HD4 := Lib.hid hD4; have HD25 := Lib.hid (HD2.out.kept b5); clear hD3 hD4)
    | (go_at_call 70; (with_reducible refine (CC.out _ _ _ _ HD3.out).mono ?_); rintro e w8 ⟨rfl, b8⟩; have b18 := below_step b15 b8; have HR8 := Lib.hid (HD4.out.kept b8))
    | (go_at_call 68; (with_reducible refine (CX.out _ _ _ _ HR8.out).mono ?_); rintro e w9 ⟨rfl, b9⟩; have b19 := below_step b18 b9)
    | fail)
  go_ret3
  exact ⟨rfl, b19⟩

set_option maxRecDepth 100000 in
set_option maxHeartbeats 8000000 in
theorem rquo_t0 (a b : ByteArray) (y : Bool) (m n : Nat) (hn : 0 < n) (f1 : m < 10 ^ 200) (f2 : n < 10 ^ 200) (h0 : m % n = 0) (hb0 : (b.toList == [48]) = false) (T S : ByteArray) (cA : ∀ W, Calls Tryz.prog 58 #[.string a] W fun e w' => e = .returned (.bool true) ∧ Below W.heap.size W w') (cB : ∀ W, Calls Tryz.prog 58 #[.string b] W fun e w' => e = .returned (.bool true) ∧ Below W.heap.size W w') (dA : ∀ W, Calls Tryz.prog 69 #[.string a] W fun e w' => ∃ A L c, e = .returned (.tuple #[.bool true, .slice A L c]) ∧ Dl w' w'.heap.size A L c (dg m) ∧ Below W.heap.size W w') (dB : ∀ W, Calls Tryz.prog 69 #[.string b] W fun e w' => ∃ A L c, e = .returned (.tuple #[.bool y, .slice A L c]) ∧ Dl w' w'.heap.size A L c (dg n) ∧ Below W.heap.size W w') (cC : ∀ (W : World) (A : Option Addr) (L c : Nat), Dl W W.heap.size A L c (dg (m / n)) → Calls Tryz.prog 70 #[.bool (!y), .slice A L c] W fun e w' => e = .returned (.tuple #[.string T, .int .i64 0]) ∧ Below W.heap.size W w') (cX : ∀ (W : World) (A : Option Addr) (L c : Nat), Dl W W.heap.size A L c (dg (m % n)) → Calls Tryz.prog 68 #[.bool false, .slice A L c] W fun e w' => e = .returned (.tuple #[.string S, .bool true]) ∧ Below W.heap.size W w') (w : World) :
    Calls Tryz.prog 52 #[.string a, .string b] w fun e w' => e = .returned (.tuple #[.string T, .string S, .int .i64 0]) ∧ Below w.heap.size w w' := by
  have la := fun (W : World) (B : Nat) (A : Option Addr) (L c k : Nat) (hk : k < 10 ^ 200) (h : Dl W B A L c (dg k)) => show L ≤ 200 by rw [h.len]; exact dg_len_lt hk
  have cD : ∀ (W : World) (A1 A2 : Option Addr) (L1 c1 L2 c2 : Nat), Dl W W.heap.size A1 L1 c1 (dg m) → Dl W W.heap.size A2 L2 c2 (dg n) → Calls Tryz.prog 78 #[.slice A1 L1 c1, .slice A2 L2 c2] W fun e w' => ∃ A L c A' L' c', e = .returned (.tuple #[.slice A L c, .slice A' L' c']) ∧ Dl w' w'.heap.size A L c (dg (m / n)) ∧ Dl w' w'.heap.size A' L' c' (dg (m % n)) ∧ Below W.heap.size W w' := fun W A1 A2 L1 c1 L2 c2 k1 k2 => rdiv_any A1 A2 L1 c1 m L2 c2 n hn (Nat.le_trans (la _ _ _ _ _ _ f1 k1) (by decide)) (Nat.le_trans (la _ _ _ _ _ _ f2 k2) (by decide)) W k1 k2
  have cL : ∀ (W : World) (A : Option Addr) (L c : Nat), Dl W W.heap.size A L c (dg (m % n)) → (L : Int) = 0 := fun W A L c h => by rw [h.len, h0, dg_zero]; rfl
  have CA := Lib.hid cA; have CB := Lib.hid cB; have DA := Lib.hid dA; have DB := Lib.hid dB; have CC := Lib.hid cC; have CX := Lib.hid cX; have CD := Lib.hid cD; have CL := Lib.hid cL
  clear cA cB dA dB cC cX cD cL la hn f1 f2 h0
  go_enter Tryz.func52, Tryz.ntmps52
  go_wp2_with (first
    | (go_at_call 58; (with_reducible refine (CA.out _).mono ?_); rintro e w1 ⟨rfl, b1⟩)
    | (go_at_call 58; (with_reducible refine (CB.out _).mono ?_); rintro e w2 ⟨rfl, b2⟩; have b12 := below_step b1 b2)
    | (go_at_call 69; (with_reducible refine (DA.out _).mono ?_); rintro e w3 ⟨A1, L1, c1, rfl, hD1, b3⟩; have b13 := below_step b12 b3; have HD1 := Lib.hid hD1; clear hD1)
    | (go_at_call 69; (with_reducible refine (DB.out _).mono ?_); rintro e w4 ⟨A2, L2, c2, rfl, hD2, b4⟩; have b14 := below_step b13 b4; have HD2 := Lib.hid hD2; have HD14 := Lib.hid (HD1.out.kept b4); clear hD2)
    | (go_at_call 78; (with_reducible refine (CD.out _ _ _ _ _ _ _ HD14.out HD2.out).mono ?_); rintro e w5 ⟨A3, L3, c3, A4, L4, c4, rfl, hD3, hD4, b5⟩; have b15 := below_step b14 b5; have HD3 := Lib.hid hD3; have HD4 := Lib.hid hD4; have HD25 := Lib.hid (HD2.out.kept b5); have hl4 := CL.out _ _ _ _ HD4.out; clear hD3 hD4)
    | (go_at_call 70; (with_reducible refine (CC.out _ _ _ _ HD3.out).mono ?_); rintro e w8 ⟨rfl, b8⟩; have b18 := below_step b15 b8; have HR8 := Lib.hid (HD4.out.kept b8))
    | (go_at_call 68; (with_reducible refine (CX.out _ _ _ _ HR8.out).mono ?_); rintro e w9 ⟨rfl, b9⟩; have b19 := below_step b18 b9)
    | fail)
  go_ret3
  exact ⟨rfl, b19⟩

set_option maxRecDepth 100000 in
set_option maxHeartbeats 8000000 in
theorem rquo_t1 (a b : ByteArray) (y : Bool) (m n : Nat) (hn : 0 < n) (f1 : m < 10 ^ 200) (f2 : n < 10 ^ 200) (h0 : 0 < m % n) (hb0 : (b.toList == [48]) = false) (T S : ByteArray) (cA : ∀ W, Calls Tryz.prog 58 #[.string a] W fun e w' => e = .returned (.bool true) ∧ Below W.heap.size W w') (cB : ∀ W, Calls Tryz.prog 58 #[.string b] W fun e w' => e = .returned (.bool true) ∧ Below W.heap.size W w') (dA : ∀ W, Calls Tryz.prog 69 #[.string a] W fun e w' => ∃ A L c, e = .returned (.tuple #[.bool true, .slice A L c]) ∧ Dl w' w'.heap.size A L c (dg m) ∧ Below W.heap.size W w') (dB : ∀ W, Calls Tryz.prog 69 #[.string b] W fun e w' => ∃ A L c, e = .returned (.tuple #[.bool y, .slice A L c]) ∧ Dl w' w'.heap.size A L c (dg n) ∧ Below W.heap.size W w') (cC : ∀ (W : World) (A : Option Addr) (L c : Nat), Dl W W.heap.size A L c (dg (m / n + 1)) → Calls Tryz.prog 70 #[.bool (!y), .slice A L c] W fun e w' => e = .returned (.tuple #[.string T, .int .i64 0]) ∧ Below W.heap.size W w') (cX : ∀ (W : World) (A : Option Addr) (L c : Nat), Dl W W.heap.size A L c (dg (n - m % n)) → Calls Tryz.prog 68 #[.bool false, .slice A L c] W fun e w' => e = .returned (.tuple #[.string S, .bool true]) ∧ Below W.heap.size W w') (w : World) :
    Calls Tryz.prog 52 #[.string a, .string b] w fun e w' => e = .returned (.tuple #[.string T, .string S, .int .i64 0]) ∧ Below w.heap.size w w' := by
  have la := fun (W : World) (B : Nat) (A : Option Addr) (L c k : Nat) (hk : k < 10 ^ 200) (h : Dl W B A L c (dg k)) => show L ≤ 200 by rw [h.len]; exact dg_len_lt hk
  have cD : ∀ (W : World) (A1 A2 : Option Addr) (L1 c1 L2 c2 : Nat), Dl W W.heap.size A1 L1 c1 (dg m) → Dl W W.heap.size A2 L2 c2 (dg n) → Calls Tryz.prog 78 #[.slice A1 L1 c1, .slice A2 L2 c2] W fun e w' => ∃ A L c A' L' c', e = .returned (.tuple #[.slice A L c, .slice A' L' c']) ∧ Dl w' w'.heap.size A L c (dg (m / n)) ∧ Dl w' w'.heap.size A' L' c' (dg (m % n)) ∧ Below W.heap.size W w' := fun W A1 A2 L1 c1 L2 c2 k1 k2 => rdiv_any A1 A2 L1 c1 m L2 c2 n hn (Nat.le_trans (la _ _ _ _ _ _ f1 k1) (by decide)) (Nat.le_trans (la _ _ _ _ _ _ f2 k2) (by decide)) W k1 k2
  have cL : ∀ (W : World) (A : Option Addr) (L c : Nat), Dl W W.heap.size A L c (dg (m % n)) → (0 : Int) < (L : Int) := fun W A L c h => by
    have := (dg_in (m % n) 0).2 (by rw [Nat.pow_zero, Nat.div_one]; exact h0)
    rw [h.len]; omega
  have fq : m / n < 10 ^ 200 := Nat.lt_of_le_of_lt (Nat.div_le_self m n) f1
  have fr : m % n < 10 ^ 200 := Nat.lt_trans (Nat.mod_lt m hn) f2
  have cP : ∀ (W : World) (A1 : Option Addr) (L1 c1 : Nat) (A2 : Option Addr), Dl W W.heap.size A1 L1 c1 (dg (m / n)) → Dl W W.heap.size A2 1 1 (dg 1) → Calls Tryz.prog 79 #[.slice A1 L1 c1, .slice A2 (1 : Nat) (1 : Nat)] W fun e w' => ∃ A L c, e = .returned (.slice A L c) ∧ Dl w' w'.heap.size A L c (dg (m / n + 1)) ∧ Far W.heap.size A ∧ Below W.heap.size W w' := fun W A1 L1 c1 A2 k1 k2 => rplus_any A1 A2 L1 c1 _ 1 1 1 (Nat.le_trans (la _ _ _ _ _ _ fq k1) (by decide)) (by decide) W k1 k2
  have cM : ∀ (W : World) (A1 A2 : Option Addr) (L1 c1 L2 c2 : Nat), Dl W W.heap.size A1 L1 c1 (dg n) → Dl W W.heap.size A2 L2 c2 (dg (m % n)) → Calls Tryz.prog 80 #[.slice A1 L1 c1, .slice A2 L2 c2] W fun e w' => ∃ A L c, e = .returned (.slice A L c) ∧ Dl w' w'.heap.size A L c (dg (n - m % n)) ∧ Far W.heap.size A ∧ Below W.heap.size W w' := fun W A1 A2 L1 c1 L2 c2 k1 k2 => rminus_any A1 A2 L1 c1 _ L2 c2 _ (Nat.le_of_lt (Nat.mod_lt m hn)) (Nat.le_trans (la _ _ _ _ _ _ f2 k1) (by decide)) (Nat.le_trans (la _ _ _ _ _ _ fr k2) (by decide)) W k1 k2
  have CA := Lib.hid cA; have CB := Lib.hid cB; have DA := Lib.hid dA; have DB := Lib.hid dB; have CC := Lib.hid cC; have CX := Lib.hid cX; have CD := Lib.hid cD; have CL := Lib.hid cL; have CP := Lib.hid cP; have CM := Lib.hid cM
  clear cA cB dA dB cC cX cD cL cP cM la hn f1 f2 h0 fq fr
  go_enter Tryz.func52, Tryz.ntmps52
  go_wp2_with (first
    | (go_at_call 58; (with_reducible refine (CA.out _).mono ?_); rintro e w1 ⟨rfl, b1⟩)
    | (go_at_call 58; (with_reducible refine (CB.out _).mono ?_); rintro e w2 ⟨rfl, b2⟩; have b12 := below_step b1 b2)
    | (go_at_call 69; (with_reducible refine (DA.out _).mono ?_); rintro e w3 ⟨A1, L1, c1, rfl, hD1, b3⟩; have b13 := below_step b12 b3; have HD1 := Lib.hid hD1; clear hD1)
    | (go_at_call 69; (with_reducible refine (DB.out _).mono ?_); rintro e w4 ⟨A2, L2, c2, rfl, hD2, b4⟩; have b14 := below_step b13 b4; have HD2 := Lib.hid hD2; have HD14 := Lib.hid (HD1.out.kept b4); clear hD2)
    | (go_at_call 78; (with_reducible refine (CD.out _ _ _ _ _ _ _ HD14.out HD2.out).mono ?_); rintro e w5 ⟨A3, L3, c3, A4, L4, c4, rfl, hD3, hD4, b5⟩; have b15 := below_step b14 b5; have HD3 := Lib.hid hD3; have HD4 := Lib.hid hD4; have HD25 := Lib.hid (HD2.out.kept b5); have hl4 := CL.out _ _ _ _ HD4.out; clear hD3 hD4)
    | (go_at_call 79; (with_reducible refine (CP.out _ _ _ _ _ (HD3.out.kept (below_alloc _ _)) (one_dl _)).mono ?_); rintro e w6 ⟨A6, L6, c6, rfl, hD6, hF6, b6⟩; have b56 := below_step (below_alloc w5 _) b6; have b16 := below_step b15 b56; have HD6 := Lib.hid hD6; have HD46 := Lib.hid (HD4.out.kept b56); have HD26 := Lib.hid (HD25.out.kept b56); clear hD6 hF6)
    | (go_at_call 80; (with_reducible refine (CM.out _ _ _ _ _ _ _ HD26.out HD46.out).mono ?_); rintro e w7 ⟨A7, L7, c7, rfl, hD7, hF7, b7⟩; have b17 := below_step b16 b7; have HD7 := Lib.hid hD7; have HD67 := Lib.hid (HD6.out.kept b7); clear hD7 hF7)
    | (go_at_call 70; (with_reducible refine (CC.out _ _ _ _ HD67.out).mono ?_); rintro e w8 ⟨rfl, b8⟩; have b18 := below_step b17 b8; have HR8 := Lib.hid (HD7.out.kept b8))
    | (go_at_call 68; (with_reducible refine (CX.out _ _ _ _ HR8.out).mono ?_); rintro e w9 ⟨rfl, b9⟩; have b19 := below_step b18 b9)
    | fail)
  go_ret3
  exact ⟨rfl, b19⟩

theorem rquo_any (a b : ByteArray) (ha : a.size ≤ 1000) (hb : b.size ≤ 1000) (w : World) :
    Calls Tryz.prog 52 #[.string a, .string b] w fun e w' => e = .returned (.tuple #[.string (divQ a b), .string (divR a b), .int .i64 (divE a b)]) ∧ Below w.heap.size w w' := by
  have cA := fun W => rvalid_any a ha W
  have cB := fun W => rvalid_any b hb W
  cases h1 : validB a.data.toList
  · rw [h1] at cA
    have h9 := divOk_not (both_no1 h1 (a := a) (b := b))
    rw [divQ_no h9, divR_no h9, divE_no h9]
    exact rquo_bad1 a b cA w
  · rw [h1] at cA
    cases h2 : validB b.data.toList
    · rw [h2] at cB
      have h9 := divOk_not (both_no2 h2 (a := a) (b := b))
      rw [divQ_no h9, divR_no h9, divE_no h9]
      exact rquo_bad2 a b cA cB w
    · rw [h2] at cB
      have dA := fun W => rdigits_any a h1 W
      have dB := fun W => rdigits_any b h2 W
      have f1 := fits_abs (fits_num h1)
      have f2 := fits_abs (fits_num h2)
      have hbo : both a b = true := by rw [both, h1, h2]; rfl
      by_cases hz : numB b = 0
      · have h9 := divOk_zero hz (a := a)
        rw [divQ_no h9, divR_no h9, divE_no h9]
        have eb := dec_numB b h2
        rw [hz, ← l0] at eb
        subst eb
        exact rquo_zero a cA cB w
      · have h9 := divOk_is hbo hz
        rw [divQ_is h9, divR_is h9, divE_is h9]
        have hb0 : (b.toList == [48]) = false := ne_zero fun e => hz (by rw [e, l0, num_dec])
        have hn : 0 < (numB b).natAbs := by omega
        have fr : (numB a).natAbs % (numB b).natAbs < 10 ^ 200 := Nat.lt_trans (Nat.mod_lt _ hn) f2
        have fits_of : ∀ (s : Bool) (k : Nat), k < 10 ^ 200 → fits (sgn s k) = true := fun s k h => by rw [fits, sgn_abs, decide_eq_true_eq]; exact h
        have cCk : ∀ (s : Bool) (k : Nat), k < 10 ^ 200 → ∀ (W : World) (A : Option Addr) (L c : Nat), Dl W W.heap.size A L c (dg k) → Calls Tryz.prog 70 #[.bool s, .slice A L c] W fun e w' => e = .returned (.tuple #[.string (dec (sgn s k)), .int .i64 0]) ∧ Below W.heap.size W w' := fun s k hk W A L c h => by
          have := rcheck_any s A L c k (by rw [h.len]; exact Nat.le_trans (dg_len_lt hk) (by decide)) W h
          rw [outT_fits (fits_of s k hk), outE_fits (fits_of s k hk)] at this
          exact this
        have cXk : ∀ (k : Nat), k < 10 ^ 200 → ∀ (W : World) (A : Option Addr) (L c : Nat), Dl W W.heap.size A L c (dg k) → Calls Tryz.prog 68 #[.bool false, .slice A L c] W fun e w' => e = .returned (.tuple #[.string (dec (k : Int)), .bool true]) ∧ Below W.heap.size W w' := fun k hk W A L c h => by
          have hl : L ≤ 200 := by rw [h.len]; exact dg_len_lt hk
          have := reftext_any false A L c k (by omega) W h
          rw [decide_eq_true hl] at this
          exact this
        by_cases hx : numB a < 0
        · rw [decide_eq_true hx] at dA
          by_cases h0 : (numB a).natAbs % (numB b).natAbs = 0
          · obtain ⟨e1, e2⟩ := div_even hz hx h0
            rw [Bool.true_bne] at e1
            rw [← e1, e2]
            have := cXk _ fr
            rw [h0] at this
            have c8 := rquo_t0 a b _ _ _ hn f1 f2 h0 hb0 _ _ cA cB dA dB (cCk _ _ (Nat.lt_of_le_of_lt (Nat.div_le_self _ _) f1)) (cXk _ fr) w
            rw [h0] at c8
            exact c8
          · obtain ⟨e1, e2⟩ := div_odd hz hx (by omega)
            rw [Bool.true_bne] at e1
            rw [← e1, e2]
            exact rquo_t1 a b _ _ _ hn f1 f2 (by omega) hb0 _ _ cA cB dA dB (cCk _ _ (Nat.lt_of_le_of_lt (quo_le (by omega)) f1)) (cXk _ (Nat.lt_of_le_of_lt (Nat.sub_le _ _) f2)) w
        · rw [decide_eq_false hx] at dA
          obtain ⟨e1, e2⟩ := div_up hz hx
          rw [Bool.false_bne] at e1
          rw [← e1, e2]
          exact rquo_f a b _ _ _ hn f1 f2 hb0 _ _ cA cB dA dB (cCk _ _ (Nat.lt_of_le_of_lt (Nat.div_le_self _ _) f1)) (cXk _ fr) w
end Go.Proofs.YtgpncnnlhhmjaaaGreatDoor
namespace Go.Proofs.YtgpncnnlhhmjaaaGreatDoor
open Go.RowKit

theorem cmp_pos {x y : Int} (hx : ¬ x < 0) (hy : ¬ y < 0) : ordN x.natAbs y.natAbs = cmpI x y := by
  unfold ordN cmpI
  split <;> (try split) <;> (try split) <;> (try split) <;> omega
theorem cmp_negs {x y : Int} (hx : x < 0) (hy : y < 0) : ordN y.natAbs x.natAbs = cmpI x y := by
  unfold ordN cmpI
  split <;> (try split) <;> (try split) <;> (try split) <;> omega
theorem cmp_np {x y : Int} (hx : x < 0) (hy : ¬ y < 0) : cmpI x y = -1 := by rw [cmpI, if_pos (by omega)]
theorem cmp_pn {x y : Int} (hx : ¬ x < 0) (hy : y < 0) : cmpI x y = 1 := by rw [cmpI, if_neg (by omega), if_pos (by omega)]

set_option maxRecDepth 100000 in
set_option maxHeartbeats 8000000 in
theorem rcmp_bad1 (a b : ByteArray) (cA : ∀ W, Calls Tryz.prog 58 #[.string a] W fun e w' => e = .returned (.bool false) ∧ Below W.heap.size W w') (w : World) :
    Calls Tryz.prog 53 #[.string a, .string b] w fun e w' => e = .returned (.int .i64 0) ∧ Below w.heap.size w w' := by
  have CA := Lib.hid cA
  clear cA
  go_enter Tryz.func53, Tryz.ntmps53
  go_wp2_with (first
    | (go_at_call 58; (with_reducible refine (CA.out _).mono ?_); rintro e w1 ⟨rfl, b1⟩)
    | fail)
  go_ret
  exact ⟨rfl, b1⟩

set_option maxRecDepth 100000 in
set_option maxHeartbeats 8000000 in
theorem rcmp_bad2 (a b : ByteArray) (cA : ∀ W, Calls Tryz.prog 58 #[.string a] W fun e w' => e = .returned (.bool true) ∧ Below W.heap.size W w') (cB : ∀ W, Calls Tryz.prog 58 #[.string b] W fun e w' => e = .returned (.bool false) ∧ Below W.heap.size W w') (w : World) :
    Calls Tryz.prog 53 #[.string a, .string b] w fun e w' => e = .returned (.int .i64 0) ∧ Below w.heap.size w w' := by
  have CA := Lib.hid cA; have CB := Lib.hid cB
  clear cA cB
  go_enter Tryz.func53, Tryz.ntmps53
  go_wp2_with (first
    | (go_at_call 58; (with_reducible refine (CA.out _).mono ?_); rintro e w1 ⟨rfl, b1⟩)
    | (go_at_call 58; (with_reducible refine (CB.out _).mono ?_); rintro e w2 ⟨rfl, b2⟩; have b12 := below_step b1 b2)
    | fail)
  go_ret
  exact ⟨rfl, b12⟩

set_option maxRecDepth 100000 in
set_option maxHeartbeats 8000000 in
theorem rcmp_ff (a b : ByteArray) (m n : Nat) (V : Int) (cA : ∀ W, Calls Tryz.prog 58 #[.string a] W fun e w' => e = .returned (.bool true) ∧ Below W.heap.size W w') (cB : ∀ W, Calls Tryz.prog 58 #[.string b] W fun e w' => e = .returned (.bool true) ∧ Below W.heap.size W w') (dA : ∀ W, Calls Tryz.prog 69 #[.string a] W fun e w' => ∃ A L c, e = .returned (.tuple #[.bool false, .slice A L c]) ∧ Dl w' w'.heap.size A L c (dg m) ∧ Below W.heap.size W w') (dB : ∀ W, Calls Tryz.prog 69 #[.string b] W fun e w' => ∃ A L c, e = .returned (.tuple #[.bool false, .slice A L c]) ∧ Dl w' w'.heap.size A L c (dg n) ∧ Below W.heap.size W w') (cO : ∀ (W : World) (A1 A2 : Option Addr) (L1 c1 L2 c2 : Nat), Dl W W.heap.size A1 L1 c1 (dg m) → Dl W W.heap.size A2 L2 c2 (dg n) → Calls Tryz.prog 81 #[.slice A1 L1 c1, .slice A2 L2 c2] W fun e w' => e = .returned (.int .i64 V) ∧ Below W.heap.size W w') (w : World) :
    Calls Tryz.prog 53 #[.string a, .string b] w fun e w' => e = .returned (.int .i64 V) ∧ Below w.heap.size w w' := by
  have CA := Lib.hid cA; have CB := Lib.hid cB; have DA := Lib.hid dA; have DB := Lib.hid dB; have CO := Lib.hid cO
  clear cA cB dA dB cO
  go_enter Tryz.func53, Tryz.ntmps53
  go_wp2_with (first
    | (go_at_call 58; (with_reducible refine (CA.out _).mono ?_); rintro e w1 ⟨rfl, b1⟩)
    | (go_at_call 58; (with_reducible refine (CB.out _).mono ?_); rintro e w2 ⟨rfl, b2⟩; have b12 := below_step b1 b2)
    | (go_at_call 69; (with_reducible refine (DA.out _).mono ?_); rintro e w3 ⟨A1, L1, c1, rfl, hD1, b3⟩; have b13 := below_step b12 b3; have HD1 := Lib.hid hD1; clear hD1)
    | (go_at_call 69; (with_reducible refine (DB.out _).mono ?_); rintro e w4 ⟨A2, L2, c2, rfl, hD2, b4⟩; have b14 := below_step b13 b4; have HD2 := Lib.hid hD2; have HD14 := Lib.hid (HD1.out.kept b4); clear hD2)
    | (go_at_call 81; (with_reducible refine (CO.out _ _ _ _ _ _ _ HD14.out HD2.out).mono ?_); rintro e w5 ⟨rfl, b5⟩; have b15 := below_step b14 b5)
    | fail)
  go_ret
  exact ⟨rfl, b15⟩

set_option maxRecDepth 100000 in
set_option maxHeartbeats 8000000 in
theorem rcmp_ft (a b : ByteArray) (m n : Nat) (cA : ∀ W, Calls Tryz.prog 58 #[.string a] W fun e w' => e = .returned (.bool true) ∧ Below W.heap.size W w') (cB : ∀ W, Calls Tryz.prog 58 #[.string b] W fun e w' => e = .returned (.bool true) ∧ Below W.heap.size W w') (dA : ∀ W, Calls Tryz.prog 69 #[.string a] W fun e w' => ∃ A L c, e = .returned (.tuple #[.bool false, .slice A L c]) ∧ Dl w' w'.heap.size A L c (dg m) ∧ Below W.heap.size W w') (dB : ∀ W, Calls Tryz.prog 69 #[.string b] W fun e w' => ∃ A L c, e = .returned (.tuple #[.bool true, .slice A L c]) ∧ Dl w' w'.heap.size A L c (dg n) ∧ Below W.heap.size W w') (w : World) :
    Calls Tryz.prog 53 #[.string a, .string b] w fun e w' => e = .returned (.int .i64 1) ∧ Below w.heap.size w w' := by
  have CA := Lib.hid cA; have CB := Lib.hid cB; have DA := Lib.hid dA; have DB := Lib.hid dB
  clear cA cB dA dB
  go_enter Tryz.func53, Tryz.ntmps53
  go_wp2_with (first
    | (go_at_call 58; (with_reducible refine (CA.out _).mono ?_); rintro e w1 ⟨rfl, b1⟩)
    | (go_at_call 58; (with_reducible refine (CB.out _).mono ?_); rintro e w2 ⟨rfl, b2⟩; have b12 := below_step b1 b2)
    | (go_at_call 69; (with_reducible refine (DA.out _).mono ?_); rintro e w3 ⟨A1, L1, c1, rfl, hD1, b3⟩; have b13 := below_step b12 b3; have HD1 := Lib.hid hD1; clear hD1)
    | (go_at_call 69; (with_reducible refine (DB.out _).mono ?_); rintro e w4 ⟨A2, L2, c2, rfl, hD2, b4⟩; have b14 := below_step b13 b4; have HD2 := Lib.hid hD2; have HD14 := Lib.hid (HD1.out.kept b4); clear hD2)
    | fail)
  go_ret
  exact ⟨rfl, b14⟩

set_option maxRecDepth 100000 in
set_option maxHeartbeats 8000000 in
theorem rcmp_tf (a b : ByteArray) (m n : Nat) (cA : ∀ W, Calls Tryz.prog 58 #[.string a] W fun e w' => e = .returned (.bool true) ∧ Below W.heap.size W w') (cB : ∀ W, Calls Tryz.prog 58 #[.string b] W fun e w' => e = .returned (.bool true) ∧ Below W.heap.size W w') (dA : ∀ W, Calls Tryz.prog 69 #[.string a] W fun e w' => ∃ A L c, e = .returned (.tuple #[.bool true, .slice A L c]) ∧ Dl w' w'.heap.size A L c (dg m) ∧ Below W.heap.size W w') (dB : ∀ W, Calls Tryz.prog 69 #[.string b] W fun e w' => ∃ A L c, e = .returned (.tuple #[.bool false, .slice A L c]) ∧ Dl w' w'.heap.size A L c (dg n) ∧ Below W.heap.size W w') (w : World) :
    Calls Tryz.prog 53 #[.string a, .string b] w fun e w' => e = .returned (.int .i64 (-1)) ∧ Below w.heap.size w w' := by
  have CA := Lib.hid cA; have CB := Lib.hid cB; have DA := Lib.hid dA; have DB := Lib.hid dB
  clear cA cB dA dB
  go_enter Tryz.func53, Tryz.ntmps53
  go_wp2_with (first
    | (go_at_call 58; (with_reducible refine (CA.out _).mono ?_); rintro e w1 ⟨rfl, b1⟩)
    | (go_at_call 58; (with_reducible refine (CB.out _).mono ?_); rintro e w2 ⟨rfl, b2⟩; have b12 := below_step b1 b2)
    | (go_at_call 69; (with_reducible refine (DA.out _).mono ?_); rintro e w3 ⟨A1, L1, c1, rfl, hD1, b3⟩; have b13 := below_step b12 b3; have HD1 := Lib.hid hD1; clear hD1)
    | (go_at_call 69; (with_reducible refine (DB.out _).mono ?_); rintro e w4 ⟨A2, L2, c2, rfl, hD2, b4⟩; have b14 := below_step b13 b4; have HD2 := Lib.hid hD2; have HD14 := Lib.hid (HD1.out.kept b4); clear hD2)
    | fail)
  go_ret
  exact ⟨rfl, b14⟩

set_option maxRecDepth 100000 in
set_option maxHeartbeats 8000000 in
theorem rcmp_tt (a b : ByteArray) (m n : Nat) (V : Int) (cA : ∀ W, Calls Tryz.prog 58 #[.string a] W fun e w' => e = .returned (.bool true) ∧ Below W.heap.size W w') (cB : ∀ W, Calls Tryz.prog 58 #[.string b] W fun e w' => e = .returned (.bool true) ∧ Below W.heap.size W w') (dA : ∀ W, Calls Tryz.prog 69 #[.string a] W fun e w' => ∃ A L c, e = .returned (.tuple #[.bool true, .slice A L c]) ∧ Dl w' w'.heap.size A L c (dg m) ∧ Below W.heap.size W w') (dB : ∀ W, Calls Tryz.prog 69 #[.string b] W fun e w' => ∃ A L c, e = .returned (.tuple #[.bool true, .slice A L c]) ∧ Dl w' w'.heap.size A L c (dg n) ∧ Below W.heap.size W w') (cO : ∀ (W : World) (A1 A2 : Option Addr) (L1 c1 L2 c2 : Nat), Dl W W.heap.size A1 L1 c1 (dg m) → Dl W W.heap.size A2 L2 c2 (dg n) → Calls Tryz.prog 81 #[.slice A2 L2 c2, .slice A1 L1 c1] W fun e w' => e = .returned (.int .i64 V) ∧ Below W.heap.size W w') (w : World) :
    Calls Tryz.prog 53 #[.string a, .string b] w fun e w' => e = .returned (.int .i64 V) ∧ Below w.heap.size w w' := by
  have CA := Lib.hid cA; have CB := Lib.hid cB; have DA := Lib.hid dA; have DB := Lib.hid dB; have CO := Lib.hid cO
  clear cA cB dA dB cO
  go_enter Tryz.func53, Tryz.ntmps53
  go_wp2_with (first
    | (go_at_call 58; (with_reducible refine (CA.out _).mono ?_); rintro e w1 ⟨rfl, b1⟩)
    | (go_at_call 58; (with_reducible refine (CB.out _).mono ?_); rintro e w2 ⟨rfl, b2⟩; have b12 := below_step b1 b2)
    | (go_at_call 69; (with_reducible refine (DA.out _).mono ?_); rintro e w3 ⟨A1, L1, c1, rfl, hD1, b3⟩; have b13 := below_step b12 b3; have HD1 := Lib.hid hD1; clear hD1)
    | (go_at_call 69; (with_reducible refine (DB.out _).mono ?_); rintro e w4 ⟨A2, L2, c2, rfl, hD2, b4⟩; have b14 := below_step b13 b4; have HD2 := Lib.hid hD2; have HD14 := Lib.hid (HD1.out.kept b4); clear hD2)
    | (go_at_call 81; (with_reducible refine (CO.out _ _ _ _ _ _ _ HD14.out HD2.out).mono ?_); rintro e w5 ⟨rfl, b5⟩; have b15 := below_step b14 b5)
    | fail)
  go_ret
  exact ⟨rfl, b15⟩

theorem rcmp_any (a b : ByteArray) (ha : a.size ≤ 1000) (hb : b.size ≤ 1000) (w : World) :
    Calls Tryz.prog 53 #[.string a, .string b] w fun e w' => e = .returned (.int .i64 (cmpS a b)) ∧ Below w.heap.size w w' := by
  have cA := fun W => rvalid_any a ha W
  have cB := fun W => rvalid_any b hb W
  cases h1 : validB a.data.toList
  · rw [h1] at cA
    rw [cmpS, both_no1 h1]
    exact rcmp_bad1 a b cA w
  · rw [h1] at cA
    cases h2 : validB b.data.toList
    · rw [h2] at cB
      rw [cmpS, both_no2 h2]
      exact rcmp_bad2 a b cA cB w
    · rw [h2] at cB
      have dA := fun W => rdigits_any a h1 W
      have dB := fun W => rdigits_any b h2 W
      have f1 := fits_abs (fits_num h1)
      have f2 := fits_abs (fits_num h2)
      have hbo : both a b = true := by rw [both, h1, h2]; rfl
      rw [cmpS, if_pos hbo]
      have la := fun (W : World) (B : Nat) (A : Option Addr) (L c k : Nat) (hk : k < 10 ^ 200) (h : Dl W B A L c (dg k)) => show L ≤ 2000 by rw [h.len]; exact Nat.le_trans (dg_len_lt hk) (by decide)
      by_cases z1 : numB a < 0
      · rw [decide_eq_true z1] at dA
        by_cases z2 : numB b < 0
        · rw [decide_eq_true z2] at dB
          rw [← cmp_negs z1 z2]
          exact rcmp_tt a b _ _ _ cA cB dA dB (fun W A1 A2 L1 c1 L2 c2 k1 k2 => order_any A2 A1 L2 c2 _ L1 c1 _ (la _ _ _ _ _ _ f2 k2) (la _ _ _ _ _ _ f1 k1) W k2 k1) w
        · rw [decide_eq_false z2] at dB
          rw [cmp_np z1 z2]
          exact rcmp_tf a b _ _ cA cB dA dB w
      · rw [decide_eq_false z1] at dA
        by_cases z2 : numB b < 0
        · rw [decide_eq_true z2] at dB
          rw [cmp_pn z1 z2]
          exact rcmp_ft a b _ _ cA cB dA dB w
        · rw [decide_eq_false z2] at dB
          rw [← cmp_pos z1 z2]
          exact rcmp_ff a b _ _ _ cA cB dA dB (fun W A1 A2 L1 c1 L2 c2 k1 k2 => order_any A1 A2 L1 c1 _ L2 c2 _ (la _ _ _ _ _ _ f1 k1) (la _ _ _ _ _ _ f2 k2) W k1 k2) w
end Go.Proofs.YtgpncnnlhhmjaaaGreatDoor
namespace Go.Proofs.YtgpncnnlhhmjaaaGreatDoor
open Go.RowKit

end Go.Proofs.YtgpncnnlhhmjaaaGreatDoor
namespace Go.Proofs.YtgpncnnlhhmjaaaGreatDoor
open Go.RowKit

set_option maxRecDepth 100000 in
set_option maxHeartbeats 8000000 in
theorem rfrom_pos (N : Nat) (hN : N ≤ 9223372036854775807) (x : Int) (hx : x = ((N : Nat) : Int)) (S : ByteArray) (hS : S = dec (sgn false N)) (w : World) :
    Calls Tryz.prog 43 #[.int .i64 x] w fun e w' => e = .returned (.string S) ∧ Below w.heap.size w w' := by
  obtain ⟨i0, hi, hz0, hz1, hz2⟩ := info_parts int_info
  have hN20 : N < 10 ^ 20 := by omega
  have cX : ∀ (A : Option Addr) (L c : Nat) (W : World), Dl W W.heap.size A L c (dg N) → Calls Tryz.prog 68 #[.bool false, .slice A L c] W fun e w' => ∃ q, e = .returned (.tuple #[.string S, .bool q]) ∧ Below W.heap.size W w' := fun A L c W h => by
    rw [hS]
    have hl : L ≤ 2000 := by rw [h.len]; exact Nat.le_trans (dg_len_lt hN20) (by decide)
    exact (reftext_any false A L c N hl W h).mono fun e w' k => ⟨_, k.1, k.2⟩
  have hsd : decide (x < 0) = false := decide_eq_false (by omega)
  have HX := Lib.hid hx; have CX := Lib.hid cX; have HN20 := Lib.hid hN20; have HNB := Lib.hid hN
  clear hx cX hN20 hS hN
  go_enter Tryz.func43, Tryz.ntmps43
  go_wp2
  go_loopw [3, 4] (fun v p wr => ∃ (M k : Nat) (z : Int) (l : List Nat), p = .int .i64 z ∧ z = ((M : Nat) : Int) ∧ M ≤ N ∧ k = l.length ∧ Hid (FromAt N M l) ∧ wr.ownsRow w.heap.size 3 1 v k (iV (zs l)) ∧ Below w.heap.size w wr) (fun _ p _ => (intOf p).natAbs)
  case atStart => exact ⟨N, 0, x, [], rfl, HX.out, Nat.le_refl _, rfl, Lib.hid (from_start N), World.ownsRow_nil _ _ _ _, Below.refl _ _⟩
  case round =>
    obtain ⟨M, k, z, l, rfl, hz, hM, hk, HT, hrow, hbr⟩ := hrel
    by_cases h0 : M = 0
    · subst h0
      obtain rfl : z = 0 := by omega
      obtain ⟨A, c, rfl, hD⟩ := own_dl l hk hrow
      have hend := from_end HT.out
      rw [hend] at hD
      have HD := Lib.hid hD; have HBR := Lib.hid hbr
      clear hrow hD hbr hend HT hz hk hM
      go_wp2_with (first
        | (go_at_call 68; (with_reducible refine (CX.out _ _ _ _ HD.out).mono ?_); rintro e w3 ⟨q, rfl, b3⟩)
        | fail)
      go_ret
      exact ⟨rfl, below_step HBR.out b3⟩
    · have hNB := HNB.out
      have hk20 : k ≤ 20 := by rw [hk]; exact from_len HT.out HN20.out
      have hst := from_step HT.out (by omega)
      have q1 : (z == 0) = false := by rw [beq_eq_false_iff_ne]; omega
      have q2 : (z != 0) = true := by rw [bne, q1]; rfl
      obtain ⟨D, hD⟩ : ∃ D : Int, D = ((M % 10 : Nat) : Int) := ⟨_, rfl⟩
      obtain ⟨Z, hZ⟩ : ∃ Z : Int, Z = ((M / 10 : Nat) : Int) := ⟨_, rfl⟩
      have hzn : z.natAbs = M := by omega
      have e1 := tmod_pos (m := z) (by omega)
      have e2 := tdiv_pos (m := z) (by omega)
      rw [hzn, ← hD] at e1
      rw [hzn, ← hZ] at e2
      have a1 : wrap64 D = D := w64_in _ (by omega) (by omega)
      have a2 : IntKind.i64.wrap D = D := i64_in _ (by omega) (by omega)
      have a3 : wrap64 Z = Z := w64_in _ (by omega) (by omega)
      have a4 : IntKind.i64.wrap Z = Z := i64_in _ (by omega) (by omega)
      have a5 : ¬ D < 0 := by omega
      have e3 := 0; have a6 := 0; have a7 := 0; have C := 0
      have mx1 : k + 1 ≤ maxLen := by unfold maxLen; omega
      have mx2 : (k + 1) * 8 ≤ 140737488355328 := by omega
      have hsn : iV (zs (l ++ [M % 10])) = iV (zs l) ++ [.int .i64 D] := by rw [iV_snoc, hD]
      have HSN := Lib.hid hsn; have HR := Lib.hid hrow; have HLL := Lib.hid hk; have HST := Lib.hid hst; have HZ := Lib.hid hZ
      have hms : Hid (Z.natAbs < z.natAbs) := Lib.hid (by omega)
      have HM2 : Hid (M / 10 ≤ N) := Lib.hid (by omega)
      have ka := keep_alloc hbr (.cells #[.int .i64 D] 3)
      clear hsn hrow hst hZ hD hbr hz hk hzn hM HT e3 a6 a7 C
      go_wp2_with (at_builtin; refine wpList_append_own _ rfl _ _ 40 rfl w.heap.size 3 i0 (.int .i64 0) 1 8 Tryz.underlying40 hi hz0 hz1 hz2 rfl (by decide) _ _ _ rfl (HR.out.alloc _) ⟨wr.heap.size, 0, none⟩ 1 1 [.int .i64 D] rfl rfl (cell_one_new _ _ _) (by simp [Value.oneCell']) mx1 mx2 ka.size ?_; intro v1 w1 hown1 hgrow _)
      go_roundw
      case rel => exact ⟨M / 10, k + 1, Z, l ++ [M % 10], rfl, HZ.out, HM2.out, by rw [List.length_append, ← HLL.out]; rfl, HST, by rw [HSN.out]; exact hown1, keep_grown ka hgrow (HR.out.alloc _)⟩
      case measure => exact hms.out

set_option maxRecDepth 100000 in
set_option maxHeartbeats 8000000 in
theorem rfrom_neg (N : Nat) (h0 : 0 < N) (hN : N ≤ 9223372036854775808) (x : Int) (hx : x = -((N : Nat) : Int)) (S : ByteArray) (hS : S = dec (sgn true N)) (w : World) :
    Calls Tryz.prog 43 #[.int .i64 x] w fun e w' => e = .returned (.string S) ∧ Below w.heap.size w w' := by
  obtain ⟨i0, hi, hz0, hz1, hz2⟩ := info_parts int_info
  have hN20 : N < 10 ^ 20 := by omega
  have cX : ∀ (A : Option Addr) (L c : Nat) (W : World), Dl W W.heap.size A L c (dg N) → Calls Tryz.prog 68 #[.bool true, .slice A L c] W fun e w' => ∃ q, e = .returned (.tuple #[.string S, .bool q]) ∧ Below W.heap.size W w' := fun A L c W h => by
    rw [hS]
    have hl : L ≤ 2000 := by rw [h.len]; exact Nat.le_trans (dg_len_lt hN20) (by decide)
    exact (reftext_any true A L c N hl W h).mono fun e w' k => ⟨_, k.1, k.2⟩
  have hsd : decide (x < 0) = true := decide_eq_true (by omega)
  have HX := Lib.hid hx; have CX := Lib.hid cX; have HN20 := Lib.hid hN20; have HNB := Lib.hid hN
  clear hx cX hN20 hS hN h0
  go_enter Tryz.func43, Tryz.ntmps43
  go_wp2
  go_loopw [3, 4] (fun v p wr => ∃ (M k : Nat) (z : Int) (l : List Nat), p = .int .i64 z ∧ z = -((M : Nat) : Int) ∧ M ≤ N ∧ k = l.length ∧ Hid (FromAt N M l) ∧ wr.ownsRow w.heap.size 3 1 v k (iV (zs l)) ∧ Below w.heap.size w wr) (fun _ p _ => (intOf p).natAbs)
  case atStart => exact ⟨N, 0, x, [], rfl, HX.out, Nat.le_refl _, rfl, Lib.hid (from_start N), World.ownsRow_nil _ _ _ _, Below.refl _ _⟩
  case round =>
    obtain ⟨M, k, z, l, rfl, hz, hM, hk, HT, hrow, hbr⟩ := hrel
    by_cases h0 : M = 0
    · subst h0
      obtain rfl : z = 0 := by omega
      obtain ⟨A, c, rfl, hD⟩ := own_dl l hk hrow
      have hend := from_end HT.out
      rw [hend] at hD
      have HD := Lib.hid hD; have HBR := Lib.hid hbr
      clear hrow hD hbr hend HT hz hk hM
      go_wp2_with (first
        | (go_at_call 68; (with_reducible refine (CX.out _ _ _ _ HD.out).mono ?_); rintro e w3 ⟨q, rfl, b3⟩)
        | fail)
      go_ret
      exact ⟨rfl, below_step HBR.out b3⟩
    · have hNB := HNB.out
      have hk20 : k ≤ 20 := by rw [hk]; exact from_len HT.out HN20.out
      have hst := from_step HT.out (by omega)
      have q1 : (z == 0) = false := by rw [beq_eq_false_iff_ne]; omega
      have q2 : (z != 0) = true := by rw [bne, q1]; rfl
      obtain ⟨D, hD⟩ : ∃ D : Int, D = ((M % 10 : Nat) : Int) := ⟨_, rfl⟩
      obtain ⟨C, hC⟩ : ∃ C : Int, C = -D := ⟨_, rfl⟩
      obtain ⟨Z, hZ⟩ : ∃ Z : Int, Z = -((M / 10 : Nat) : Int) := ⟨_, rfl⟩
      have hzn : z.natAbs = M := by omega
      have e1 := tmod_neg (m := z) (by omega)
      have e2 := tdiv_neg (m := z) (by omega)
      rw [hzn, ← hD, ← hC] at e1
      rw [hzn, ← hZ] at e2
      have a1 : wrap64 D = D := w64_in _ (by omega) (by omega)
      have a2 : IntKind.i64.wrap D = D := i64_in _ (by omega) (by omega)
      have a3 : wrap64 Z = Z := w64_in _ (by omega) (by omega)
      have a4 : IntKind.i64.wrap Z = Z := i64_in _ (by omega) (by omega)
      have a6 : wrap64 C = C := w64_in _ (by omega) (by omega)
      have a7 : IntKind.i64.wrap C = C := i64_in _ (by omega) (by omega)
      have e3 : -C = D := by omega
      have mx1 : k + 1 ≤ maxLen := by unfold maxLen; omega
      have mx2 : (k + 1) * 8 ≤ 140737488355328 := by omega
      have hsn : iV (zs (l ++ [M % 10])) = iV (zs l) ++ [.int .i64 D] := by rw [iV_snoc, hD]
      have HSN := Lib.hid hsn; have HR := Lib.hid hrow; have HLL := Lib.hid hk; have HST := Lib.hid hst; have HZ := Lib.hid hZ
      have hms : Hid (Z.natAbs < z.natAbs) := Lib.hid (by omega)
      have HM2 : Hid (M / 10 ≤ N) := Lib.hid (by omega)
      have ka := keep_alloc hbr (.cells #[.int .i64 D] 3)
      clear hsn hrow hst hZ hbr hz hk hzn hM HT
      by_cases hd0 : M % 10 = 0
      · obtain rfl : D = 0 := by omega
        obtain rfl : C = 0 := by omega
        clear hD hC e3 a1 a2 a6 a7
        go_wp2_with (at_builtin; refine wpList_append_own _ rfl _ _ 40 rfl w.heap.size 3 i0 (.int .i64 0) 1 8 Tryz.underlying40 hi hz0 hz1 hz2 rfl (by decide) _ _ _ rfl (HR.out.alloc _) ⟨wr.heap.size, 0, none⟩ 1 1 [.int .i64 0] rfl rfl (cell_one_new _ _ _) (by simp [Value.oneCell']) mx1 mx2 ka.size ?_; intro v1 w1 hown1 hgrow _)
        go_roundw
        case rel => exact ⟨M / 10, k + 1, Z, l ++ [M % 10], rfl, HZ.out, HM2.out, by rw [List.length_append, ← HLL.out]; rfl, HST, by rw [HSN.out]; exact hown1, keep_grown ka hgrow (HR.out.alloc _)⟩
        case measure => exact hms.out
      · have c0 : C < 0 := by omega
        clear hD hC
        go_wp2_with (at_builtin; refine wpList_append_own _ rfl _ _ 40 rfl w.heap.size 3 i0 (.int .i64 0) 1 8 Tryz.underlying40 hi hz0 hz1 hz2 rfl (by decide) _ _ _ rfl (HR.out.alloc _) ⟨wr.heap.size, 0, none⟩ 1 1 [.int .i64 D] rfl rfl (cell_one_new _ _ _) (by simp [Value.oneCell']) mx1 mx2 ka.size ?_; intro v1 w1 hown1 hgrow _)
        go_roundw
        case rel => exact ⟨M / 10, k + 1, Z, l ++ [M % 10], rfl, HZ.out, HM2.out, by rw [List.length_append, ← HLL.out]; rfl, HST, by rw [HSN.out]; exact hown1, keep_grown ka hgrow (HR.out.alloc _)⟩
        case measure => exact hms.out

theorem rfrom_any (n : Int) (h0 : -9223372036854775808 ≤ n) (h1 : n ≤ 9223372036854775807) (w : World) :
    Calls Tryz.prog 43 #[.int .i64 n] w fun e w' => e = .returned (.string (dec n)) ∧ Below w.heap.size w w' := by
  by_cases h : n < 0
  · have := rfrom_neg n.natAbs (by omega) (by omega) n (by omega) _ rfl w
    rw [show sgn true n.natAbs = n by rw [sgn_t]; omega] at this
    exact this
  · have := rfrom_pos n.natAbs (by omega) n (by omega) _ rfl w
    rw [show sgn false n.natAbs = n by rw [sgn_f]; omega] at this
    exact this
end Go.Proofs.YtgpncnnlhhmjaaaGreatDoor
namespace Go.Proofs.YtgpncnnlhhmjaaaGreatDoor
open Go.RowKit

theorem lit_lo : (⟨#[45, 57, 50, 50, 51, 51, 55, 50, 48, 51, 54, 56, 53, 52, 55, 55, 53, 56, 48, 56]⟩ : ByteArray) = dec (-9223372036854775808) := by rw [dec, Lib.itoa, if_pos (by decide)]; simp [Lib.decDigits, str]
theorem lit_hi : (⟨#[57, 50, 50, 51, 51, 55, 50, 48, 51, 54, 56, 53, 52, 55, 55, 53, 56, 48, 55]⟩ : ByteArray) = dec 9223372036854775807 := by rw [show (9223372036854775807 : Int) = ((9223372036854775807 : Nat) : Int) from rfl, dec_nat]; simp [Lib.decDigits, str]

set_option maxRecDepth 100000 in
set_option maxHeartbeats 8000000 in
theorem rint_bad (a : ByteArray) (cV : ∀ W, Calls Tryz.prog 58 #[.string a] W fun e w' => e = .returned (.bool false) ∧ Below W.heap.size W w') (w : World) :
    Calls Tryz.prog 37 #[.string a] w fun e w' => e = .returned (.tuple #[.int .i64 0, .int .i64 30]) ∧ Below w.heap.size w w' := by
  have CV := Lib.hid cV
  clear cV
  go_enter Tryz.func37, Tryz.ntmps37
  go_wp2_with (first
    | (go_at_call 58; (with_reducible refine (CV.out _).mono ?_); rintro e w1 ⟨rfl, b1⟩)
    | fail)
  go_ret2
  exact ⟨rfl, b1⟩

set_option maxRecDepth 100000 in
set_option maxHeartbeats 8000000 in
theorem rint_low (a : ByteArray) (v : Int) (hv : v < 0) (cV : ∀ W, Calls Tryz.prog 58 #[.string a] W fun e w' => e = .returned (.bool true) ∧ Below W.heap.size W w') (cL : ∀ W, Calls Tryz.prog 53 #[.string a, .string ⟨#[45, 57, 50, 50, 51, 51, 55, 50, 48, 51, 54, 56, 53, 52, 55, 55, 53, 56, 48, 56]⟩] W fun e w' => e = .returned (.int .i64 v) ∧ Below W.heap.size W w') (w : World) :
    Calls Tryz.prog 37 #[.string a] w fun e w' => e = .returned (.tuple #[.int .i64 0, .int .i64 30]) ∧ Below w.heap.size w w' := by
  have CV := Lib.hid cV; have CL := Lib.hid cL
  clear cV cL
  go_enter Tryz.func37, Tryz.ntmps37
  go_wp2_with (first
    | (go_at_call 58; (with_reducible refine (CV.out _).mono ?_); rintro e w1 ⟨rfl, b1⟩)
    | (go_at_call 53; (with_reducible refine (CL.out _).mono ?_); rintro e w2 ⟨rfl, b2⟩; have b12 := below_step b1 b2)
    | fail)
  go_ret2
  exact ⟨rfl, b12⟩

set_option maxRecDepth 100000 in
set_option maxHeartbeats 8000000 in
theorem rint_high (a : ByteArray) (u v : Int) (hu : ¬ u < 0) (hv : 0 < v) (cV : ∀ W, Calls Tryz.prog 58 #[.string a] W fun e w' => e = .returned (.bool true) ∧ Below W.heap.size W w') (cL : ∀ W, Calls Tryz.prog 53 #[.string a, .string ⟨#[45, 57, 50, 50, 51, 51, 55, 50, 48, 51, 54, 56, 53, 52, 55, 55, 53, 56, 48, 56]⟩] W fun e w' => e = .returned (.int .i64 u) ∧ Below W.heap.size W w') (cH : ∀ W, Calls Tryz.prog 53 #[.string a, .string ⟨#[57, 50, 50, 51, 51, 55, 50, 48, 51, 54, 56, 53, 52, 55, 55, 53, 56, 48, 55]⟩] W fun e w' => e = .returned (.int .i64 v) ∧ Below W.heap.size W w') (w : World) :
    Calls Tryz.prog 37 #[.string a] w fun e w' => e = .returned (.tuple #[.int .i64 0, .int .i64 30]) ∧ Below w.heap.size w w' := by
  have CV := Lib.hid cV; have CL := Lib.hid cL; have CH := Lib.hid cH
  clear cV cL cH
  go_enter Tryz.func37, Tryz.ntmps37
  go_wp2_with (first
    | (go_at_call 58; (with_reducible refine (CV.out _).mono ?_); rintro e w1 ⟨rfl, b1⟩)
    | (go_at_call 53; (with_reducible refine (CL.out _).mono ?_); rintro e w2 ⟨rfl, b2⟩; have b12 := below_step b1 b2)
    | (go_at_call 53; (with_reducible refine (CH.out _).mono ?_); rintro e w3 ⟨rfl, b3⟩; have b13 := below_step b12 b3)
    | fail)
  go_ret2
  exact ⟨rfl, b13⟩

theorem at_pos {a : ByteArray} {t : List UInt8} (ha : a.data.toList = t) {i : Nat} {b : UInt8} (h : t[i]? = some b) (hi : i < a.size) : ((a[i]'hi).toNat : Int) = (b.toNat : Int) := by
  have h1 : a.data.toList[i]? = some b := by rw [ha]; exact h
  have h2 := List.getElem?_eq_getElem (l := a.data.toList) (i := i) (by rw [Array.length_toList]; exact hi)
  rw [h1] at h2
  have h3 : b = a[i]'hi := Option.some.inj h2
  rw [h3]

set_option maxRecDepth 100000 in
set_option maxHeartbeats 8000000 in
theorem rint_pos (a : ByteArray) (t : List UInt8) (ha : a.data.toList = t) (hall : t.all dig = true) (N : Nat) (hN : N ≤ 9223372036854775807) (hval : val t = N) (hs : a.size ≤ 1000) (u v : Int) (hu : ¬ u < 0) (hv : ¬ 0 < v) (X : Int) (h0 : 0 < a.size) (hX : ((a[0].toNat : Nat) : Int) = X) (hX2 : (X == 45) = false) (r : Int) (hr : r = (N : Int)) (cV : ∀ W, Calls Tryz.prog 58 #[.string a] W fun e w' => e = .returned (.bool true) ∧ Below W.heap.size W w') (cL : ∀ W, Calls Tryz.prog 53 #[.string a, .string ⟨#[45, 57, 50, 50, 51, 51, 55, 50, 48, 51, 54, 56, 53, 52, 55, 55, 53, 56, 48, 56]⟩] W fun e w' => e = .returned (.int .i64 u) ∧ Below W.heap.size W w') (cH : ∀ W, Calls Tryz.prog 53 #[.string a, .string ⟨#[57, 50, 50, 51, 51, 55, 50, 48, 51, 54, 56, 53, 52, 55, 55, 53, 56, 48, 55]⟩] W fun e w' => e = .returned (.int .i64 v) ∧ Below W.heap.size W w') (w : World) :
    Calls Tryz.prog 37 #[.string a] w fun e w' => e = .returned (.tuple #[.int .i64 r, .int .i64 0]) ∧ Below w.heap.size w w' := by
  have hlen : t.length = a.size := by
    have := congrArg List.length ha
    rw [Array.length_toList] at this
    exact this.symm
  have hdig : ∀ (i : Nat) (b : UInt8), t[i]? = some b → 48 ≤ b.toNat ∧ b.toNat ≤ 57 := fun i b h => by
    have := List.all_eq_true.1 hall b (List.mem_of_getElem? h)
    rw [dig, Bool.and_eq_true, decide_eq_true_eq, decide_eq_true_eq] at this
    exact this
  have hat : ∀ (i : Nat) (b : UInt8) (hi : i < a.size), t[i]? = some b → ((a[i]'hi).toNat : Int) = (b.toNat : Int) := fun i b hi h => at_pos ha h hi
  have hle : ∀ i, val (t.take i) ≤ N := fun i => by rw [← hval]; exact val_take t i
  have hnx : ∀ (i : Nat) (b : UInt8), t[i]? = some b → val (t.take (i + 1)) = val (t.take i) * 10 + (b.toNat - 48) := fun i b h => val_next h
  have hfin : val (t.take t.length) = N := by rw [List.take_length]; exact hval
  have i0a : (0 : Int) < (a.size : Int) := by omega
  have CV := Lib.hid cV; have CL := Lib.hid cL; have CH := Lib.hid cH; have HLEN := Lib.hid hlen; have HDIG := Lib.hid hdig; have HAT := Lib.hid hat; have HLE := Lib.hid hle; have HNX := Lib.hid hnx; have HFIN := Lib.hid hfin; have HN := Lib.hid hN; have HR := Lib.hid hr
  clear cV cL cH hlen hdig hat hle hnx hfin hN hr ha hall hval
  go_enter Tryz.func37, Tryz.ntmps37
  go_wp2_with (first
    | (go_at_call 58; (with_reducible refine (CV.out _).mono ?_); rintro e w1 ⟨rfl, b1⟩)
    | (go_at_call 53; (with_reducible refine (CL.out _).mono ?_); rintro e w2 ⟨rfl, b2⟩; have b12 := below_step b1 b2)
    | (go_at_call 53; (with_reducible refine (CH.out _).mono ?_); rintro e w3 ⟨rfl, b3⟩; have b13 := below_step b12 b3)
    | fail)
  have HB := Lib.hid b13
  clear b1 b2 b12 b3 b13
  go_loopw [4, 5] (fun vn p wr => ∃ (i : Nat) (n : Int), vn = .int .i64 n ∧ p = .int .i64 i ∧ i ≤ a.size ∧ Hid (n = (val (t.take i) : Int)) ∧ Below w.heap.size w wr) (fun _ p _ => a.size - (intOf p).toNat)
  case atStart => exact ⟨0, 0, rfl, rfl, by omega, Lib.hid (by rw [List.take_zero]; rfl), HB.out⟩
  case round =>
    obtain ⟨i, n, rfl, rfl, hi, HV, hbr⟩ := hrel
    by_cases h1 : i < a.size
    · have i1 : (i : Int) < (a.size : Int) := by omega
      have i2 : (0 : Int) ≤ (i : Int) := by omega
      have hlen := HLEN.out
      obtain ⟨b, hb⟩ : ∃ b, t[i]? = some b := ⟨_, List.getElem?_eq_getElem (by omega)⟩
      obtain ⟨c, hc⟩ : ∃ c : Int, c = (b.toNat : Int) := ⟨_, rfl⟩
      have hab : ((a[i].toNat : Nat) : Int) = c := by rw [hc]; exact HAT.out i b h1 hb
      have hd := HDIG.out i b hb
      have hnx := HNX.out i b hb
      have hle := HLE.out (i + 1)
      have hN := HN.out
      obtain ⟨V, hV⟩ : ∃ V, V = val (t.take i) := ⟨_, rfl⟩
      have hn : n = (V : Int) := by rw [hV]; exact HV.out
      rw [← hV] at hnx
      obtain ⟨D, hD⟩ : ∃ D : Int, D = c - 48 := ⟨_, rfl⟩
      obtain ⟨P, hP⟩ : ∃ P : Int, P = 10 * n := ⟨_, rfl⟩
      obtain ⟨S, hS⟩ : ∃ S : Int, S = P + D := ⟨_, rfl⟩
      have hS2 : S = (val (t.take (i + 1)) : Int) := by omega
      have a0 : (c == 45) = false := by rw [beq_eq_false_iff_ne]; omega
      have a1 : IntKind.u8.wrap (c - 48) = D := by rw [← hD]; exact u8_in _ (by omega) (by omega)
      have a2 : IntKind.i64.wrap D = D := i64_in _ (by omega) (by omega)
      have a3 : wrap64 D = D := w64_in _ (by omega) (by omega)
      have a4 : IntKind.i64.wrap (10 * n) = P := by rw [← hP]; exact i64_in _ (by omega) (by omega)
      have a5 : wrap64 P = P := w64_in _ (by omega) (by omega)
      have a6 : IntKind.i64.wrap (P + D) = S := by rw [← hS]; exact i64_in _ (by omega) (by omega)
      have a7 : wrap64 S = S := w64_in _ (by omega) (by omega)
      have HS2 := Lib.hid hS2; have HBR := Lib.hid hbr
      clear hlen hb hc hd hnx hle hN hV hn hD hP hS hS2 HV hbr
      go_wp2
      go_roundw
      case rel => exact ⟨i + 1, S, rfl, by go_num, by omega, HS2, HBR.out⟩
      case measure => simp [intOf]; omega
    · have i1 : ¬ (i : Int) < (a.size : Int) := by omega
      have hn : n = r := by rw [HV.out, HR.out, show i = t.length by have := HLEN.out; omega, HFIN.out]
      subst hn
      have HBR := Lib.hid hbr
      clear hbr HV
      go_wp2
      go_ret2
      exact ⟨rfl, HBR.out⟩

theorem at_neg {a : ByteArray} {t : List UInt8} (ha : a.data.toList = 45 :: t) {i : Nat} {b : UInt8} (h : t[i]? = some b) (hi : i + 1 < a.size) : ((a[i + 1]'hi).toNat : Int) = (b.toNat : Int) := by
  have h1 : a.data.toList[i + 1]? = some b := by rw [ha]; exact h
  have h2 := List.getElem?_eq_getElem (l := a.data.toList) (i := i + 1) (by rw [Array.length_toList]; exact hi)
  rw [h1] at h2
  have h3 : b = a[i + 1]'hi := Option.some.inj h2
  rw [h3]

set_option maxRecDepth 100000 in
set_option maxHeartbeats 8000000 in
theorem rint_neg (a : ByteArray) (t : List UInt8) (ha : a.data.toList = 45 :: t) (hall : t.all dig = true) (N : Nat) (hN : N ≤ 9223372036854775808) (hval : val t = N) (hs : a.size ≤ 1000) (u v : Int) (hu : ¬ u < 0) (hv : ¬ 0 < v) (X : Int) (h0 : 0 < a.size) (hX : ((a[0].toNat : Nat) : Int) = X) (hX2 : (X == 45) = true) (r : Int) (hr : r = -(N : Int)) (cV : ∀ W, Calls Tryz.prog 58 #[.string a] W fun e w' => e = .returned (.bool true) ∧ Below W.heap.size W w') (cL : ∀ W, Calls Tryz.prog 53 #[.string a, .string ⟨#[45, 57, 50, 50, 51, 51, 55, 50, 48, 51, 54, 56, 53, 52, 55, 55, 53, 56, 48, 56]⟩] W fun e w' => e = .returned (.int .i64 u) ∧ Below W.heap.size W w') (cH : ∀ W, Calls Tryz.prog 53 #[.string a, .string ⟨#[57, 50, 50, 51, 51, 55, 50, 48, 51, 54, 56, 53, 52, 55, 55, 53, 56, 48, 55]⟩] W fun e w' => e = .returned (.int .i64 v) ∧ Below W.heap.size W w') (w : World) :
    Calls Tryz.prog 37 #[.string a] w fun e w' => e = .returned (.tuple #[.int .i64 r, .int .i64 0]) ∧ Below w.heap.size w w' := by
  have hlen : t.length + 1 = a.size := by
    have := congrArg List.length ha
    rw [Array.length_toList] at this
    exact this.symm
  have hdig : ∀ (i : Nat) (b : UInt8), t[i]? = some b → 48 ≤ b.toNat ∧ b.toNat ≤ 57 := fun i b h => by
    have := List.all_eq_true.1 hall b (List.mem_of_getElem? h)
    rw [dig, Bool.and_eq_true, decide_eq_true_eq, decide_eq_true_eq] at this
    exact this
  have hat : ∀ (i : Nat) (b : UInt8) (hi : i + 1 < a.size), t[i]? = some b → ((a[i + 1]'hi).toNat : Int) = (b.toNat : Int) := fun i b hi h => at_neg ha h hi
  have hle : ∀ i, val (t.take i) ≤ N := fun i => by rw [← hval]; exact val_take t i
  have hnx : ∀ (i : Nat) (b : UInt8), t[i]? = some b → val (t.take (i + 1)) = val (t.take i) * 10 + (b.toNat - 48) := fun i b h => val_next h
  have hfin : val (t.take t.length) = N := by rw [List.take_length]; exact hval
  have i0a : (0 : Int) < (a.size : Int) := by omega
  have CV := Lib.hid cV; have CL := Lib.hid cL; have CH := Lib.hid cH; have HLEN := Lib.hid hlen; have HDIG := Lib.hid hdig; have HAT := Lib.hid hat; have HLE := Lib.hid hle; have HNX := Lib.hid hnx; have HFIN := Lib.hid hfin; have HN := Lib.hid hN; have HR := Lib.hid hr
  clear cV cL cH hlen hdig hat hle hnx hfin hN hr ha hall hval
  go_enter Tryz.func37, Tryz.ntmps37
  go_wp2_with (first
    | (go_at_call 58; (with_reducible refine (CV.out _).mono ?_); rintro e w1 ⟨rfl, b1⟩)
    | (go_at_call 53; (with_reducible refine (CL.out _).mono ?_); rintro e w2 ⟨rfl, b2⟩; have b12 := below_step b1 b2)
    | (go_at_call 53; (with_reducible refine (CH.out _).mono ?_); rintro e w3 ⟨rfl, b3⟩; have b13 := below_step b12 b3)
    | fail)
  have HB := Lib.hid b13
  clear b1 b2 b12 b3 b13
  go_loopw [4, 5] (fun vn p wr => ∃ (i : Nat) (n : Int), vn = .int .i64 n ∧ p = .int .i64 i ∧ i ≤ a.size ∧ Hid (n = -(val (t.take (i - 1)) : Int)) ∧ Below w.heap.size w wr) (fun _ p _ => a.size - (intOf p).toNat)
  case atStart => exact ⟨0, 0, rfl, rfl, by omega, Lib.hid (by rw [List.take_zero]; rfl), HB.out⟩
  case round =>
    obtain ⟨i, n, rfl, rfl, hi, HV, hbr⟩ := hrel
    by_cases h1 : i < a.size
    · have i1 : (i : Int) < (a.size : Int) := by omega
      have i2 : (0 : Int) ≤ (i : Int) := by omega
      by_cases hi0 : i = 0
      · subst hi0
        have HBR := Lib.hid hbr
        clear hbr
        have hn0 : n = 0 := by rw [HV.out]; rfl
        subst hn0
        go_wp2
        go_roundw
        case rel => exact ⟨1, 0, rfl, by go_num, by omega, Lib.hid (by rw [List.take_zero]; rfl), HBR.out⟩
        case measure => simp [intOf]; omega
      · obtain ⟨j, rfl⟩ : ∃ j, i = j + 1 := ⟨i - 1, by omega⟩
        have hlen := HLEN.out
        obtain ⟨b, hb⟩ : ∃ b, t[j]? = some b := ⟨_, List.getElem?_eq_getElem (by omega)⟩
        obtain ⟨c, hc⟩ : ∃ c : Int, c = (b.toNat : Int) := ⟨_, rfl⟩
        have hab0 : ((a[j + 1].toNat : Nat) : Int) = c := by rw [hc]; exact HAT.out j b h1 hb
        have hd := HDIG.out j b hb
        have hnx := HNX.out j b hb
        have hle := HLE.out (j + 1)
        have hN := HN.out
        obtain ⟨V, hV⟩ : ∃ V, V = val (t.take j) := ⟨_, rfl⟩
        have hn : n = -(V : Int) := by rw [hV]; exact HV.out
        rw [← hV] at hnx
        obtain ⟨k, hk⟩ : ∃ k, k = j + 1 := ⟨_, rfl⟩
        have hk1 : k < a.size := by omega
        have hab : ((a[k]'hk1).toNat : Int) = c := by subst hk; exact hab0
        rw [← hk] at h1 i1 i2 hi ⊢
        obtain ⟨C, hC⟩ : ∃ C : Int, C = c - 48 := ⟨_, rfl⟩
        obtain ⟨D, hD⟩ : ∃ D : Int, D = -C := ⟨_, rfl⟩
        obtain ⟨P, hP⟩ : ∃ P : Int, P = 10 * n := ⟨_, rfl⟩
        obtain ⟨S, hS⟩ : ∃ S : Int, S = P + D := ⟨_, rfl⟩
        have hS2 : S = -(val (t.take (k + 1 - 1)) : Int) := by rw [hk, show j + 1 + 1 - 1 = j + 1 from rfl]; omega
        have a0 : (c == 45) = false := by rw [beq_eq_false_iff_ne]; omega
        have a1 : IntKind.u8.wrap (c - 48) = C := by rw [← hC]; exact u8_in _ (by omega) (by omega)
        have a2 : IntKind.i64.wrap C = C := i64_in _ (by omega) (by omega)
        have a3 : wrap64 C = C := w64_in _ (by omega) (by omega)
        have a8 : IntKind.i64.wrap (-C) = D := by rw [← hD]; exact i64_in _ (by omega) (by omega)
        have a9 : wrap64 D = D := w64_in _ (by omega) (by omega)
        have a4 : IntKind.i64.wrap (10 * n) = P := by rw [← hP]; exact i64_in _ (by omega) (by omega)
        have a5 : wrap64 P = P := w64_in _ (by omega) (by omega)
        have a6 : IntKind.i64.wrap (P + D) = S := by rw [← hS]; exact i64_in _ (by omega) (by omega)
        have a7 : wrap64 S = S := w64_in _ (by omega) (by omega)
        have HS2 := Lib.hid hS2; have HBR := Lib.hid hbr
        clear hlen hb hc hd hnx hle hN hV hn hC hD hP hS hS2 HV hbr hab0 hi0
        clear hk
        go_wp2
        go_roundw
        case rel => exact ⟨k + 1, S, rfl, by go_num, by omega, HS2, HBR.out⟩
        case measure => simp [intOf]; omega
    · have i1 : ¬ (i : Int) < (a.size : Int) := by omega
      have hn : n = r := by rw [HV.out, HR.out, show i - 1 = t.length by have := HLEN.out; omega, HFIN.out]
      subst hn
      have HBR := Lib.hid hbr
      clear hbr HV
      go_wp2
      go_ret2
      exact ⟨rfl, HBR.out⟩

theorem rint_any (a : ByteArray) (ha : a.size ≤ 1000) (w : World) :
    Calls Tryz.prog 37 #[.string a] w fun e w' => e = .returned (.tuple #[.int .i64 (intN a), .int .i64 (intE a)]) ∧ Below w.heap.size w w' := by
  have cV := fun W => rvalid_any a ha W
  cases h1 : validB a.data.toList
  · rw [h1] at cV
    have e0 : intOk a = false := by rw [intOk, h1]; rfl
    rw [intN, intE, e0]
    exact rint_bad a cV w
  · rw [h1] at cV
    have cL := fun W => rcmp_any a ⟨#[45, 57, 50, 50, 51, 51, 55, 50, 48, 51, 54, 56, 53, 52, 55, 55, 53, 56, 48, 56]⟩ ha (by decide) W
    have cH := fun W => rcmp_any a ⟨#[57, 50, 50, 51, 51, 55, 50, 48, 51, 54, 56, 53, 52, 55, 55, 53, 56, 48, 55]⟩ ha (by decide) W
    have e := dec_numB a h1
    have fz := fits_num h1
    have kL : cmpS a ⟨#[45, 57, 50, 50, 51, 51, 55, 50, 48, 51, 54, 56, 53, 52, 55, 55, 53, 56, 48, 56]⟩ = cmpI (numB a) (-9223372036854775808) := by rw [lit_lo, cmpS, if_pos (by rw [both, h1, valid_dec, fits_tiny (by decide)]; rfl), num_dec]
    have kH : cmpS a ⟨#[57, 50, 50, 51, 51, 55, 50, 48, 51, 54, 56, 53, 52, 55, 55, 53, 56, 48, 55]⟩ = cmpI (numB a) 9223372036854775807 := by rw [lit_hi, cmpS, if_pos (by rw [both, h1, valid_dec, fits_tiny (by decide)]; rfl), num_dec]
    rw [kL] at cL
    rw [kH] at cH
    by_cases hlo : numB a < -9223372036854775808
    · have e0 : intOk a = false := by rw [intOk, in64, decide_eq_false (by omega), Bool.false_and, Bool.and_false]
      rw [intN, intE, e0]
      exact rint_low a _ (by rw [cmpI, if_pos hlo]; decide) cV cL w
    · by_cases hhi : 9223372036854775807 < numB a
      · have e0 : intOk a = false := by rw [intOk, in64, decide_eq_false (p := numB a ≤ _) (by omega), Bool.and_false, Bool.and_false]
        rw [intN, intE, e0]
        exact rint_high a _ _ (by rw [cmpI, if_neg hlo]; split <;> decide) (by rw [cmpI, if_neg (by omega), if_pos hhi]; decide) cV cL cH w
      · have e0 : intOk a = true := by rw [intOk, in64, h1, decide_eq_true (by omega), decide_eq_true (by omega)]; rfl
        rw [intN, intE, e0, if_pos rfl, if_pos rfl]
        have hu : ¬ cmpI (numB a) (-9223372036854775808) < 0 := by rw [cmpI, if_neg hlo]; split <;> decide
        have hv : ¬ 0 < cmpI (numB a) 9223372036854775807 := by
          rw [cmpI]
          split <;> (try split) <;> first | decide | omega
        have h0 := valid_some h1
        have hf := valid_first h1 h0
        by_cases hx : numB a < 0
        · rw [decide_eq_true hx] at hf
          exact rint_neg a (Lib.decDigits (numB a).natAbs) (by
            have := dec_neg' hx
            rw [e] at this
            exact congrArg (fun s : ByteArray => s.data.toList) this) (decDigits_all _) (numB a).natAbs (by omega) (val_decDigits _) ha _ _ hu hv _ h0 rfl hf _ (by omega) cV cL cH w
        · rw [decide_eq_false hx] at hf
          exact rint_pos a (Lib.decDigits (numB a).natAbs) (by
            have := dec_pos' hx
            rw [e] at this
            exact congrArg (fun s : ByteArray => s.data.toList) this) (decDigits_all _) (numB a).natAbs (by omega) (val_decDigits _) ha _ _ hu hv _ h0 rfl hf _ (by omega) cV cL cH w
end Go.Proofs.YtgpncnnlhhmjaaaGreatDoor
