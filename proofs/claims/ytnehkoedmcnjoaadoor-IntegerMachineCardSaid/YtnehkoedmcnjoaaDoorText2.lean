/- The walk of IntegerText. -/
import Derived.Test.YtnehkoedmcnjoaaDoorUse
namespace Go.Proofs.YtnehkoedmcnjoaaDoor
open Go.RowKit

theorem fits_64 {n : Int} (h0 : -9223372036854775808 ≤ n) (h1 : n ≤ 9223372036854775807) : fits n = true := fits_tiny (by omega)
theorem toInt_dec {n : Int} {a : ByteArray} (ha : a = dec n) (h0 : -9223372036854775808 ≤ n) (h1 : n ≤ 9223372036854775807) (w : World) (he : Err w) :
    Calls Tryd.prog 13 #[.string a] w fun e w' => e = .returned (.tuple #[.int .i64 n, .int .i64 0]) ∧ Below w.heap.size w w' := by
  subst ha
  have h := ToInt_any (dec n) w he
  have e0 : intOk (dec n) = true := by
    rw [intOk, valid_dec, fits_64 h0 h1, num_dec, in64, decide_eq_true h0, decide_eq_true h1]; rfl
  rw [intN, intE, e0, num_dec] at h
  exact h
set_option maxRecDepth 100000 in
set_option maxHeartbeats 8000000 in
theorem text_walk (n : Int) (s : ByteArray) (h0 : -9223372036854775808 ≤ n) (h1 : n ≤ 9223372036854775807) (hs : s.size ≤ 9223372036854775807) (w : World) (ht : Tab w) (he : Err w) :
    Calls Tryd.prog 4 #[.int .i64 n, .string s] w fun e w' => e = .returned (.bool true) ∧ Below w.heap.size w w' := by
  obtain ⟨M, hM⟩ : ∃ M, M = min s.size 30 := ⟨_, rfl⟩
  have eM : ∀ (ts : Array TypeId) (t : TypeId) (W : World), (Builtin.min_ ts t #[.int .i64 (s.size : Int), .int .i64 30]).run Tryd.prog W = .ok (.int .i64 (M : Int)) W := by
    intro ts t W
    rw [run_min_int2, show (if (30 : Int) < (s.size : Int) then (30 : Int) else (s.size : Int)) = (M : Int) by split <;> omega]
  obtain ⟨S, hS⟩ : ∃ S, s.extract 0 M = S := ⟨_, rfl⟩
  have m0 : (0 : Int) ≤ (M : Int) := by omega
  have m1 : (M : Int) ≤ (s.size : Int) := by omega
  obtain ⟨X, hX⟩ : ∃ X, X = dec n := ⟨_, rfl⟩
  have c1 := fun W (h : Tab W) => FromInt_any n h0 h1 W h
  rw [← hX] at c1
  have c2 := fun W (h : Err W) => toInt_dec hX h0 h1 W h
  have c4 := fun W => valid_at hX (fits_64 h0 h1) W
  have c3 := fun W (h : Err W) => ToInt_any S W h
  have T := Lib.hid ht; have E := Lib.hid he
  have C1 := Lib.hid c1; have C2 := Lib.hid c2; have C4 := Lib.hid c4
  clear c1 c2 c4 ht he hX hM
  cases hk : intOk S
  · have e1 : intN S = 0 := by rw [intN, hk]; rfl
    have e2 : intE S = 30 := by rw [intE, hk]; rfl
    rw [e1, e2] at c3
    have C3 := Lib.hid c3
    clear c3 hk e1 e2
    go_enter Tryd.func4, Tryd.ntmps4
    go_wp2_with (first
      | (go_at_call 11; (with_reducible refine (sane_any _ T.out).mono ?_); rintro e w1 ⟨rfl, b1⟩)
      | (go_at_call 12; (with_reducible refine (C1.out _ (T.out.below b1)).mono ?_); rintro e w2 ⟨rfl, b2⟩; have d2 := below_step b1 b2)
      | (go_at_call 13; (with_reducible refine (C2.out _ (E.out.below d2)).mono ?_); rintro e w3 ⟨rfl, b3⟩; have d3 := below_step d2 b3)
      | (go_at_call 13; (with_reducible refine (C3.out _ (E.out.below d3)).mono ?_); rintro e w4 ⟨rfl, b4⟩; have d4 := below_step d3 b4)
      | (go_at_call 19; (with_reducible refine (C4.out _).mono ?_); rintro e w5 ⟨rfl, b5⟩; have d5 := below_step d4 b5)
      | fail)
    go_ret
    exact ⟨rfl, d5⟩
  · have hv : validB S.data.toList = true := by
      have := hk
      rw [intOk, Bool.and_eq_true] at this; exact this.1
    have hi : in64 (numB S) = true := by
      have := hk
      rw [intOk, Bool.and_eq_true] at this; exact this.2
    simp only [in64, Bool.and_eq_true, decide_eq_true_eq] at hi
    have e1 : intN S = numB S := by rw [intN, hk]; rfl
    have e2 : intE S = 0 := by rw [intE, hk]; rfl
    rw [e1, e2] at c3
    have c6 := fun W (h : Tab W) => FromInt_any (numB S) hi.1 hi.2 W h
    rw [dec_numB S hv] at c6
    have c5 := fun W => valid_any S W
    rw [hv] at c5
    obtain ⟨k, hkk⟩ : ∃ k, k = numB S := ⟨_, rfl⟩
    rw [← hkk] at c3 c6
    have C3 := Lib.hid c3; have C5 := Lib.hid c5; have C6 := Lib.hid c6
    clear c3 hk e1 e2 c6 c5 hv hi hkk
    go_enter Tryd.func4, Tryd.ntmps4
    go_wp2_with (first
      | (go_at_call 11; (with_reducible refine (sane_any _ T.out).mono ?_); rintro e w1 ⟨rfl, b1⟩)
      | (go_at_call 12; (with_reducible refine (C1.out _ (T.out.below b1)).mono ?_); rintro e w2 ⟨rfl, b2⟩; have d2 := below_step b1 b2)
      | (go_at_call 13; (with_reducible refine (C2.out _ (E.out.below d2)).mono ?_); rintro e w3 ⟨rfl, b3⟩; have d3 := below_step d2 b3)
      | (go_at_call 13; (with_reducible refine (C3.out _ (E.out.below d3)).mono ?_); rintro e w4 ⟨rfl, b4⟩; have d4 := below_step d3 b4)
      | (go_at_call 19; (with_reducible refine (C4.out _).mono ?_); rintro e w5 ⟨rfl, b5⟩; have d5 := below_step d4 b5)
      | (go_at_call 19; (with_reducible refine (C5.out _).mono ?_); rintro e w6 ⟨rfl, b6⟩; have d6 := below_step d5 b6)
      | (go_at_call 12; (with_reducible refine (C6.out _ (T.out.below d6)).mono ?_); rintro e w7 ⟨rfl, b7⟩; have d7 := below_step d6 b7)
      | fail)
    go_ret
    exact ⟨rfl, d7⟩
end Go.Proofs.YtnehkoedmcnjoaaDoor
