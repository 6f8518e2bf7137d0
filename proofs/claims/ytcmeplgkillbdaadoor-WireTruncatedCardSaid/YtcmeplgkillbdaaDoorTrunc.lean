/- The walk of dialtonelaw01.WireTruncated. -/
import Derived.Test.YtcmeplgkillbdaaDoorUse
namespace Go.Proofs.YtcmeplgkillbdaaDoor
open Go.RowKit

theorem enc_arr_prefix {n m : Int} (hn : -4611686018427387903 ≤ n ∧ n ≤ 4611686018427387903) (hm : -4611686018427387903 ≤ m ∧ m ≤ 4611686018427387903) {A B : ByteArray} (hA : A = ⟨(enc n).toArray⟩) (hB : B = ⟨(enc m).toArray⟩) (hne : n ≠ m) (hle : A.size ≤ B.size) :
    ((B.extract 0 A.size).toList == A.toList) = false := by
  rw [beq_eq_false_iff_ne]
  intro h
  rw [ByteArray.toList_eq, ByteArray.toList_eq, ext_list] at h
  subst hA hB
  simp only [size_arr] at h
  have h2 := (List.take_append_drop (enc n).length (enc m)).symm
  have e : List.take (enc n).length (enc m) = enc n := by simpa using h
  rw [e] at h2
  exact hne (enc_prefix hm.1 hm.2 hn.1 hn.2 h2).symm

set_option maxRecDepth 100000 in
set_option maxHeartbeats 2000000 in
theorem trunc_walk (c d : Int) (c1 : -9223372036854775808 ≤ c) (c2 : c ≤ 9223372036854775807) (d1 : -9223372036854775808 ≤ d) (d2 : d ≤ 9223372036854775807) (t : ByteArray) (ht : t.size ≤ 9223372036854775807) (k : Int) (k1 : -9223372036854775808 ≤ k) (k2 : k ≤ 9223372036854775807)
    (w : World) (htab : Tab w) (hsz : 0 < w.heap.size) :
    Calls Tryd.prog 7 #[.int .i64 c, .int .i64 d, .string t, .int .i64 k] w fun e w' => e = .returned (.bool true) ∧ Below w.heap.size w w' := by
  have HT := Lib.hid htab; clear htab
  obtain ⟨N, hN⟩ : ∃ N, N = numN c := ⟨_, rfl⟩
  obtain ⟨M, hM⟩ : ∃ M, M = numN d := ⟨_, rfl⟩
  have hn := num_in c
  have hm := num_in d
  rw [← hN] at hn
  rw [← hM] at hm
  have HN := Lib.hid hN; have HM := Lib.hid hM; clear hN hM
  obtain ⟨T, hT1, hT2, -, hT⟩ := min_if t 200 (by omega)
  go_enter Tryd.func7, Tryd.ntmps7
  go_wp2_with fail
  refine (sane_any _ HT.out hsz).mono ?_
  rintro e w1 ⟨rfl, b1⟩
  go_wp2_with fail
  refine (number_any _ (by omega) (by omega) _).mono ?_
  rw [← HN.out]
  rintro e w2 ⟨rfl, b2⟩
  go_wp2_with fail
  refine (putInt_any _ (by omega) (by omega) _).mono ?_
  rw [putInt_in hn]
  rintro e w3 ⟨rfl, b3⟩
  go_wp2_with fail
  refine (number_any _ (by omega) (by omega) _).mono ?_
  rw [← HM.out]
  rintro e w4 ⟨rfl, b4⟩
  go_wp2_with fail
  refine (putInt_any _ (by omega) (by omega) _).mono ?_
  rw [putInt_in hm]
  rintro e w5 ⟨rfl, b5⟩
  go_wp2_with fail
  have sT := ext_size t T hT1
  generalize t.extract 0 T = t' at *
  clear hT
  refine (putString_any _ (by omega) _).mono ?_
  rw [putString_in (s := t') (by omega)]
  rintro e w6 ⟨rfl, b6⟩
  have q1 := b1
  have q2 := q1.trans (b2.mono q1.size)
  have q3 := q2.trans (b3.mono q2.size)
  have q4 := q3.trans (b4.mono q3.size)
  have q5 := q4.trans (b5.mono q4.size)
  have q6 := q5.trans (b6.mono q5.size)
  have hA := enc_len N hn.1 hn.2
  have hB := enc_len M hm.1 hm.2
  have hC := enc_len t'.size (by unfold maxInt; omega) (by unfold maxInt; omega)
  obtain ⟨A, eA⟩ : ∃ A : ByteArray, A = ⟨(enc N).toArray⟩ := ⟨_, rfl⟩
  obtain ⟨B, eB⟩ : ∃ B : ByteArray, B = ⟨(enc M).toArray⟩ := ⟨_, rfl⟩
  obtain ⟨C, eC⟩ : ∃ C : ByteArray, C = ⟨(enc t'.size ++ t'.data.toList).toArray⟩ := ⟨_, rfl⟩
  have sA : A.size = (enc N).length := by rw [eA, size_arr]
  have sB : B.size = (enc M).length := by rw [eB, size_arr]
  have sC : C.size = (enc t'.size).length + t'.size := by rw [eC, size_arr, List.length_append, len_data]
  rw [← eA, ← eB, ← eC]
  have kA : 1 ≤ A.size ∧ A.size ≤ 9 := by omega
  have kB : 1 ≤ B.size ∧ B.size ≤ 9 := by omega
  have kC : 1 ≤ C.size ∧ C.size ≤ 300 := by omega
  have pA := pickN_in k A.size (by omega)
  have pC := pickN_in k C.size (by omega)
  obtain ⟨I, hI⟩ := Int.eq_ofNat_of_zero_le pA.1
  obtain ⟨J, hJ⟩ := Int.eq_ofNat_of_zero_le pC.1
  have hIA : I < A.size := by omega
  have hJC : J < C.size := by omega
  have i1 : intS (A.extract 0 I).data.toList 0 = (0, 0, 10) := by
    rw [ext_list, eA]
    exact intS_cut3 (intS_cut N hn.1 hn.2 I (by omega))
  have i2 : stringS (C.extract 0 J).data.toList 0 = ([], 0, 10) := by
    rw [ext_list, eC]
    have := stringS_cut t'.data.toList (by rw [len_data]; omega) J (by rw [List.length_append, len_data]; omega)
    rw [len_data] at this
    exact stringS_cut3 this
  have s1 : (A.extract 0 I).size ≤ 9223372036854775807 := by simp; omega
  have s2 : (C.extract 0 J).size ≤ 9223372036854775807 := by simp; omega
  have I1 := Lib.hid i1; have I2 := Lib.hid i2; have SA := Lib.hid eA; have SB := Lib.hid eB; have HI := Lib.hid hI; have HJ := Lib.hid hJ; have SS1 := Lib.hid s1; have SS2 := Lib.hid s2
  clear i1 i2 eA eB eC sA sB sC hI hJ pA pC sT hA hB hC s1 s2
  have zA : ((A.size : Int) == 0) = false := by rw [beq_eq_false_iff_ne]; omega
  have zC : ((C.size : Int) == 0) = false := by rw [beq_eq_false_iff_ne]; omega
  have nA : ¬ A = ByteArray.empty := fun h => by rw [h] at kA; simp at kA
  have nC : ¬ C = ByteArray.empty := fun h => by rw [h] at kC; simp at kC
  by_cases hNM : N = M
  · subst hNM
    obtain rfl : A = B := by rw [SA.out, SB.out]
    go_wp2_with fail
    refine (pick_any _ _ _ (by omega) (by omega) (by omega) (by omega)).mono ?_
    rw [HI.out]
    rintro e w7 ⟨rfl, rfl⟩
    go_wp2_with fail
    refine (int_any _ _ (by omega) (by omega) SS1.out _).mono ?_
    rw [I1.out]; rintro e w7 ⟨rfl, rfl⟩; dsimp only [intV]
    go_wp2_with fail
    refine (pick_any _ _ _ (by omega) (by omega) (by omega) (by omega)).mono ?_
    rw [HJ.out]
    rintro e w7 ⟨rfl, rfl⟩
    go_wp2_with fail
    refine (string_any _ _ (by omega) (by omega) SS2.out _).mono ?_
    rw [I2.out]; rintro e w7 ⟨rfl, b7⟩; dsimp only [strV]
    go_wp2_with fail
    refine (number_any _ (by omega) (by omega) _).mono ?_
    rw [← HN.out]
    rintro e w8 ⟨rfl, b8⟩
    go_wp2_with fail
    refine (number_any _ (by omega) (by omega) _).mono ?_
    rw [← HM.out]
    rintro e w9 ⟨rfl, b9⟩
    go_wp2
    go_ret
    have q7 := q6.trans (b7.mono q6.size)
    have q8 := q7.trans (b8.mono q7.size)
    have q9 := q8.trans (b9.mono q8.size)
    exact ⟨by simp, q9⟩
  · have hne : (N == M) = false := by rw [beq_eq_false_iff_ne]; exact hNM
    by_cases hle : A.size ≤ B.size
    · have hf := enc_arr_prefix hn hm SA.out SB.out hNM hle
      go_wp2_with fail
      refine (pick_any _ _ _ (by omega) (by omega) (by omega) (by omega)).mono ?_
      rw [HI.out]
      rintro e w7 ⟨rfl, rfl⟩
      go_wp2_with fail
      refine (int_any _ _ (by omega) (by omega) SS1.out _).mono ?_
      rw [I1.out]; rintro e w7 ⟨rfl, rfl⟩; dsimp only [intV]
      go_wp2_with fail
      refine (pick_any _ _ _ (by omega) (by omega) (by omega) (by omega)).mono ?_
      rw [HJ.out]
      rintro e w7 ⟨rfl, rfl⟩
      go_wp2_with fail
      refine (string_any _ _ (by omega) (by omega) SS2.out _).mono ?_
      rw [I2.out]; rintro e w7 ⟨rfl, b7⟩; dsimp only [strV]
      go_wp2_with fail
      refine (number_any _ (by omega) (by omega) _).mono ?_
      rw [← HN.out]
      rintro e w8 ⟨rfl, b8⟩
      go_wp2_with fail
      refine (number_any _ (by omega) (by omega) _).mono ?_
      rw [← HM.out]
      rintro e w9 ⟨rfl, b9⟩
      go_wp2
      go_ret
      have q7 := q6.trans (b7.mono q6.size)
      have q8 := q7.trans (b8.mono q7.size)
      have q9 := q8.trans (b9.mono q8.size)
      exact ⟨by simp, q9⟩
    · go_wp2_with fail
      refine (pick_any _ _ _ (by omega) (by omega) (by omega) (by omega)).mono ?_
      rw [HI.out]
      rintro e w7 ⟨rfl, rfl⟩
      go_wp2_with fail
      refine (int_any _ _ (by omega) (by omega) SS1.out _).mono ?_
      rw [I1.out]; rintro e w7 ⟨rfl, rfl⟩; dsimp only [intV]
      go_wp2_with fail
      refine (pick_any _ _ _ (by omega) (by omega) (by omega) (by omega)).mono ?_
      rw [HJ.out]
      rintro e w7 ⟨rfl, rfl⟩
      go_wp2_with fail
      refine (string_any _ _ (by omega) (by omega) SS2.out _).mono ?_
      rw [I2.out]; rintro e w7 ⟨rfl, b7⟩; dsimp only [strV]
      go_wp2_with fail
      refine (number_any _ (by omega) (by omega) _).mono ?_
      rw [← HN.out]
      rintro e w8 ⟨rfl, b8⟩
      go_wp2_with fail
      refine (number_any _ (by omega) (by omega) _).mono ?_
      rw [← HM.out]
      rintro e w9 ⟨rfl, b9⟩
      go_wp2
      go_ret
      have q7 := q6.trans (b7.mono q6.size)
      have q8 := q7.trans (b8.mono q7.size)
      have q9 := q8.trans (b9.mono q8.size)
      exact ⟨by simp, q9⟩
end Go.Proofs.YtcmeplgkillbdaaDoor
