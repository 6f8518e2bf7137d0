/- The walk of dialtonelaw01.WireRoundTrip. -/
import Derived.Test.YtcmeplgkillbdaaDoorUse
namespace Go.Proofs.YtcmeplgkillbdaaDoor
open Go.RowKit

set_option maxRecDepth 100000 in
set_option maxHeartbeats 1000000 in
theorem round_walk (c : Int) (c1 : -9223372036854775808 ≤ c) (c2 : c ≤ 9223372036854775807) (t p q : ByteArray) (ht : t.size ≤ 9223372036854775807) (hp : p.size ≤ 9223372036854775807) (hq : q.size ≤ 9223372036854775807)
    (w : World) (htab : Tab w) (hsz : 0 < w.heap.size) :
    Calls Tryd.prog 4 #[.int .i64 c, .string t, .agg #[.string p, .string q]] w fun e w' => e = .returned (.bool true) ∧ Below w.heap.size w w' := by
  have HT := Lib.hid htab; clear htab
  obtain ⟨N, hN⟩ : ∃ N, N = numN c := ⟨_, rfl⟩
  have hn := num_in c
  rw [← hN] at hn
  have hb0 : Below w.heap.size w (w.alloc (.cells #[.string p, .string q] 36)) := (Below.refl _ w).alloc (Nat.le_refl _) _
  have HT1 := Lib.hid (HT.out.below hb0 hsz)
  have HN := Lib.hid hN; clear hN
  go_enter Tryd.func4, Tryd.ntmps4
  go_wp2_with fail
  refine (sane_any _ HT1.out (by simp <;> omega)).mono ?_
  rintro e w1 ⟨rfl, b1⟩
  go_wp2_with fail
  refine (number_any _ (by omega) (by omega) _).mono ?_
  rw [← HN.out]
  rintro e w2 ⟨rfl, b2⟩
  have b02 := (b1.mono (show w.heap.size + 1 ≤ _ by simp)).trans (b2.mono (show w.heap.size + 1 ≤ _ by have := b1.size; simp at this; omega))
  have hc0 : w2.cell? ⟨w.heap.size, 0, none⟩ = some (.string p) := (b02.cell (p := ⟨w.heap.size, 0, none⟩) (by simp)).trans (by rw [World.cell?_alloc_at _ _ _ _ rfl]; rfl)
  have hc1 : w2.cell? ⟨w.heap.size, 1, none⟩ = some (.string q) := (b02.cell (p := ⟨w.heap.size, 1, none⟩) (by simp)).trans (by rw [World.cell?_alloc_at _ _ _ _ rfl]; rfl)
  have b2' : Below w.heap.size w w2 := hb0.trans (b02.mono (by omega))
  clear b1 b2 b02
  obtain ⟨P, hP1, hP2, -, hP⟩ := min_if p 200 (by omega)
  obtain ⟨Q, hQ1, hQ2, -, hQ⟩ := min_if q 200 (by omega)
  obtain ⟨T, hT1, hT2, -, hT⟩ := min_if t 200 (by omega)
  go_wp2_with fail
  have sP := ext_size p P hP1
  have sQ := ext_size q Q hQ1
  have sT := ext_size t T hT1
  generalize p.extract 0 P = p' at *
  generalize q.extract 0 Q = q' at *
  generalize t.extract 0 T = t' at *
  clear hc0 hc1 hP hQ hT
  refine (putInt_any _ (by omega) (by omega) _).mono ?_
  rw [putInt_in hn]
  rintro e w3 ⟨rfl, b3⟩
  go_wp2_with fail
  refine (putString_any _ (by omega) _).mono ?_
  rw [putString_in (s := t') (by omega)]
  rintro e w4 ⟨rfl, b4⟩
  have hA := enc_len N hn.1 hn.2
  have hB := enc_len t'.size (by unfold maxInt; omega) (by unfold maxInt; omega)
  obtain ⟨A, eA⟩ : ∃ A : ByteArray, A = ⟨(enc N).toArray⟩ := ⟨_, rfl⟩
  obtain ⟨B, eB⟩ : ∃ B : ByteArray, B = ⟨(enc t'.size ++ t'.data.toList).toArray⟩ := ⟨_, rfl⟩
  have sA : A.size = (enc N).length := by rw [eA, size_arr]
  have sB : B.size = (enc t'.size).length + t'.size := by rw [eB, size_arr, List.length_append, len_data]
  rw [← eA, ← eB]
  have s1 : (p' ++ A ++ q').size = p'.size + A.size + q'.size := by simp
  have s2 : (p' ++ B ++ q').size = p'.size + B.size + q'.size := by simp
  have i1 : intS (p' ++ A ++ q').data.toList (p'.size : Int) = (N, (p'.size : Int) + A.size, 0) := by
    have h := intS_enc N hn.1 hn.2 p'.data.toList q'.data.toList
    rw [len_data] at h
    rw [sA, ← h, eA]; simp
  have i2 : stringS (p' ++ B ++ q').data.toList (p'.size : Int) = (t'.data.toList, (p'.size : Int) + B.size, 0) := by
    have h := stringS_enc t'.data.toList p'.data.toList q'.data.toList (by rw [len_data]; omega)
    rw [len_data, len_data, List.length_append, len_data] at h
    rw [sB, ← h, eB]; simp
  have kA : A.size ≤ 9 := by omega
  have kB : B.size ≤ 300 := by omega
  have kp : p'.size ≤ 200 := by omega
  have kq : q'.size ≤ 200 := by omega
  have I1 := Lib.hid i1; have I2 := Lib.hid i2; have SA := Lib.hid eA; have SB := Lib.hid eB
  clear i1 i2 eA eB sA sB
  have S1 := Lib.hid s1; have S2 := Lib.hid s2; clear s1 s2 sP sQ sT
  have l1 : (p' ++ A ++ q').size ≤ 9223372036854775807 := by rw [S1.out]; omega
  have l2 : (p' ++ B ++ q').size ≤ 9223372036854775807 := by rw [S2.out]; omega
  go_wp2_with fail
  refine (int_any _ _ (by omega) (by omega) l1 _).mono ?_
  rw [I1.out]; rintro e w5 ⟨rfl, rfl⟩; dsimp only [intV]
  go_wp2_with fail
  refine (string_any _ _ (by omega) (by omega) l2 _).mono ?_
  rw [I2.out]; rintro e w6 ⟨rfl, b6⟩; dsimp only [strV]
  go_wp2
  go_ret
  have c3 := b3.mono b2'.size
  have q3 := b2'.trans c3
  have q4 := q3.trans (b4.mono q3.size)
  have q6 := q4.trans (b6.mono q4.size)
  refine ⟨?_, q6⟩
  simp
end Go.Proofs.YtcmeplgkillbdaaDoor
