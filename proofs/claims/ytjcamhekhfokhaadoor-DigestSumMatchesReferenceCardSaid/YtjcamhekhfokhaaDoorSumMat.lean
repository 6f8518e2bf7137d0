/- DigestSumMatchesReference. -/
import Derived.Test.YtjcamhekhfokhaaDoorRefS
import Derived.Test.YtjcamhekhfokhaaDoorSane
import Derived.Test.YtjcamhekhfokhaaDoorAcc
namespace Go.Proofs.YtjcamhekhfokhaaDoor
open Go.RowKit

set_option maxRecDepth 100000 in
set_option maxHeartbeats 2000000 in
theorem summat_walk (s t : ByteArray) (hs : s.size ≤ 9223372036854775807) (hts : t.size ≤ 9223372036854775807) (w : World) (ht : Tab w) :
    Calls Tryd.prog 3 #[.string s, .string t] w fun e w' => e = .returned (.bool true) ∧ Below w.heap.size w w' := by
  obtain ⟨M, M1, M2, M3, hM⟩ := min_if s 500 (by omega)
  obtain ⟨S, hSS⟩ : ∃ Y, s.extract 0 M = Y := ⟨_, rfl⟩
  have kS : S.size ≤ 500 := by rw [← hSS, ByteArray.size_extract]; omega
  have m0 : (0 : Int) ≤ (M : Int) := by omega
  have m1 : (M : Int) ≤ (s.size : Int) := by omega
  obtain ⟨M', M1', M2', M3', hM'⟩ := min_if t 500 (by omega)
  obtain ⟨T, hTT⟩ : ∃ Y, t.extract 0 M' = Y := ⟨_, rfl⟩
  have kT : T.size ≤ 500 := by rw [← hTT, ByteArray.size_extract]; omega
  have m0' : (0 : Int) ≤ (M' : Int) := by omega
  have m1' : (M' : Int) ≤ (t.size : Int) := by omega
  have HT := Lib.hid ht
  clear ht M3 M3'
  have a1 := fun W (hW : Tab W) => sum_any S (by omega) W hW
  have a2 := fun W => refsum_any S (by omega) W
  have a3 := fun W (hW : Tab W) => leaf_any T (by omega) W hW
  have a4 := fun W => refleaf_any T (by omega) W
  have a5 := fun W (hW : Tab W) => node_any S T (by omega) (by omega) W hW
  have a6 := fun W => refnode_any S T (by omega) (by omega) W
  have a7 := fun W (hW : Tab W) => chain_any T S (by omega) (by omega) W hW
  have a8 := fun W => refchain_any T S (by omega) (by omega) W
  obtain ⟨P1, hP1⟩ : ∃ P, P = sumS S := ⟨_, rfl⟩
  obtain ⟨P2, hP2⟩ : ∃ P, P = leafS T := ⟨_, rfl⟩
  obtain ⟨P3, hP3⟩ : ∃ P, P = nodeS S T := ⟨_, rfl⟩
  obtain ⟨P4, hP4⟩ : ∃ P, P = chainS T S := ⟨_, rfl⟩
  rw [← hP1] at a1 a2
  rw [← hP2] at a3 a4
  rw [← hP3] at a5 a6
  rw [← hP4] at a7 a8
  have d1 := str_eq (rfl : P1 = P1)
  have d2 := str_eq (rfl : P2 = P2)
  have d3 := str_eq (rfl : P3 = P3)
  have d4 := str_eq (rfl : P4 = P4)
  clear hP1 hP2 hP3 hP4
  go_enter Tryd.func3, Tryd.ntmps3
  go_wp2_with fail
  refine (sane_any _ HT.out).mono ?_
  rintro e w1 ⟨rfl, b1⟩
  have T1 := Lib.hid (HT.out.below b1)
  go_wp2_with fail
  refine (a1 _ T1.out).mono ?_
  rintro e w2 ⟨rfl, b2⟩
  have q2 := below_step b1 b2
  clear b1 b2 T1
  go_wp2_with fail
  refine (a2 _).mono ?_
  rintro e w3 ⟨rfl, b3⟩
  have q3 := below_step q2 b3
  have T3 := Lib.hid (HT.out.below q3)
  clear q2 b3
  go_wp2_with fail
  refine (a3 _ T3.out).mono ?_
  rintro e w4 ⟨rfl, b4⟩
  have q4 := below_step q3 b4
  clear q3 b4 T3
  go_wp2_with fail
  refine (a4 _).mono ?_
  rintro e w5 ⟨rfl, b5⟩
  have q5 := below_step q4 b5
  have T5 := Lib.hid (HT.out.below q5)
  clear q4 b5
  go_wp2_with fail
  refine (a5 _ T5.out).mono ?_
  rintro e w6 ⟨rfl, b6⟩
  have q6 := below_step q5 b6
  clear q5 b6 T5
  go_wp2_with fail
  refine (a6 _).mono ?_
  rintro e w7 ⟨rfl, b7⟩
  have q7 := below_step q6 b7
  have T7 := Lib.hid (HT.out.below q7)
  clear q6 b7
  go_wp2_with fail
  refine (a7 _ T7.out).mono ?_
  rintro e w8 ⟨rfl, b8⟩
  have q8 := below_step q7 b8
  clear q7 b8 T7
  go_wp2_with fail
  refine (a8 _).mono ?_
  rintro e w9 ⟨rfl, b9⟩
  go_wp2_with fail
  go_ret
  exact ⟨rfl, below_step q8 b9⟩
end Go.Proofs.YtjcamhekhfokhaaDoor
