/- The walk of dialtonelaw01.WireMatchesReference. -/
import Derived.Test.YtcmeplgkillbdaaDoorRefK
import Derived.Test.YtcmeplgkillbdaaDoorAff
namespace Go.Proofs.YtcmeplgkillbdaaDoor
open Go.RowKit

theorem refSum_q (s : ByteArray) (hs : s.size ≤ 9223372036854775807) (w : World) :
    Calls Tryd.prog 22 #[.string s] w fun e w' => e = .returned (.int .i64 (crc s.data.toList)) ∧ w' = w := (refSum_any s hs w).mono fun _ _ h => ⟨h.1, h.2.symm⟩

set_option maxRecDepth 100000 in
set_option maxHeartbeats 4000000 in
theorem mat_walk (c : Int) (c1 : -9223372036854775808 ≤ c) (c2 : c ≤ 9223372036854775807) (s : ByteArray) (k : Int) (k1 : -9223372036854775808 ≤ k) (k2 : k ≤ 9223372036854775807)
    (w : World) (htab : Tab w) (hsz : 0 < w.heap.size) (hss : s.size ≤ 9223372036854775807) :
    Calls Tryd.prog 3 #[.int .i64 c, .string s, .int .i64 k] w fun e w' => e = .returned (.bool true) ∧ Below w.heap.size w w' := by
  have HT := Lib.hid htab; clear htab
  obtain ⟨T, hT1, hT2, -, hT⟩ := min_if s 300 (by omega)
  obtain ⟨S, hS⟩ : ∃ S, s.extract 0 T = S := ⟨_, rfl⟩
  have kS : S.size ≤ 300 := by rw [← hS, ext_size s T hT1]; omega
  go_enter Tryd.func3, Tryd.ntmps3
  go_wp2_with fail
  refine (sane_any _ HT.out hsz).mono ?_
  rintro e w1 ⟨rfl, b1⟩
  have hnb := num_in c
  obtain ⟨N, hN⟩ : ∃ N, N = numN c := ⟨_, rfl⟩
  rw [← hN] at hnb
  have HN := Lib.hid hN; clear hN
  go_wp2_with fail
  refine (number_any _ (by omega) (by omega) _).mono ?_
  rw [← HN.out]
  rintro e w2 ⟨rfl, b2⟩
  have q2 := b1.trans (b2.mono b1.size)
  have q3 : Below w.heap.size w (w2.alloc (.cells #[.int .i64 c, .int .i64 N] 3)) := q2.alloc q2.size _
  have d0 : (w2.alloc (.cells #[.int .i64 c, .int .i64 N] 3)).cell? ⟨w2.heap.size, 0, none⟩ = some (.int .i64 c) := by rw [World.cell?_alloc_at _ _ _ _ rfl]; rfl
  have d1 : (w2.alloc (.cells #[.int .i64 c, .int .i64 N] 3)).cell? ⟨w2.heap.size, 1, none⟩ = some (.int .i64 N) := by rw [World.cell?_alloc_at _ _ _ _ rfl]; rfl
  have hsz2 := q2.size
  clear b1 b2 hT
  go_wp2_with fail
  go_loopw [44] (fun i wr => ∃ j : Nat, i = .int .i64 j ∧ j ≤ 2 ∧ Below (w2.heap.size + 1) (w2.alloc (.cells #[.int .i64 c, .int .i64 N] 3)) wr) (fun i _ => 2 - (intOf i).toNat)
  case atStart => exact ⟨0, rfl, by omega, Below.refl _ _⟩
  case round =>
    obtain ⟨j, rfl, hj, hbr⟩ := hrel
    by_cases hj2 : j < 2
    · obtain ⟨kk, kk1, kk2, hcell⟩ : ∃ kk : Int, -9223372036854775808 ≤ kk ∧ kk ≤ 9223372036854775807 ∧ wr.cell? ⟨w2.heap.size, j, none⟩ = some (.int .i64 kk) := by
        obtain rfl | rfl : j = 0 ∨ j = 1 := by omega
        · exact ⟨c, c1, c2, (hbr.cell (p := ⟨w2.heap.size, 0, none⟩) (by simp)).trans d0⟩
        · exact ⟨N, by omega, by omega, (hbr.cell (p := ⟨w2.heap.size, 1, none⟩) (by simp)).trans d1⟩
      clear d0 d1
      have hwr := hbr.size
      simp only [World.size_alloc] at hwr
      obtain ⟨l, er, hp⟩ : ∃ l er, putIntS kk = (l, er) := ⟨_, _, rfl⟩
      have HP := Lib.hid hp; clear hp
      go_wp2_with fail
      refine (putInt_any _ (by omega) (by omega) _).mono ?_
      rw [HP.out]; rintro e w4 ⟨rfl, b4⟩
      go_wp2_with fail
      refine (refPut_any _ (by omega) (by omega) _).mono ?_
      rw [HP.out]; rintro e w5 ⟨rfl, b5⟩
      have r4 := hbr.trans (b4.mono hwr)
      have h4 := r4.size
      simp only [World.size_alloc] at h4
      have r5 := r4.trans (b5.mono h4)
      go_wp2
      go_roundw
      case rel => exact ⟨j + 1, by go_num, by omega, r5⟩
      case measure => simp [intOf]; omega
    · have q4 := q3.trans (hbr.mono (by omega))
      have hsz4 := q4.size
      obtain ⟨w4, rfl⟩ : ∃ x, x = wr := ⟨_, rfl⟩
      clear d0 d1 hbr
      have pK := pickN_in k (S.size + 2) (by omega)
      obtain ⟨K, hK⟩ : ∃ K, K = pickN k (S.size + 2) := ⟨_, rfl⟩
      rw [← hK] at pK
      have HK := Lib.hid hK; clear hK
      go_wp2_with fail
      refine (pick_any _ _ _ (by omega) (by omega) (by omega) (by omega)).mono ?_
      rw [← HK.out]
      rintro e w5 ⟨rfl, rfl⟩
      have q5 : Below w.heap.size w (w4.alloc (.cells #[.int .i64 k, .int .i64 K] 3)) := q4.alloc q4.size _
      have d0 : (w4.alloc (.cells #[.int .i64 k, .int .i64 K] 3)).cell? ⟨w4.heap.size, 0, none⟩ = some (.int .i64 k) := by rw [World.cell?_alloc_at _ _ _ _ rfl]; rfl
      have d1 : (w4.alloc (.cells #[.int .i64 k, .int .i64 K] 3)).cell? ⟨w4.heap.size, 1, none⟩ = some (.int .i64 K) := by rw [World.cell?_alloc_at _ _ _ _ rfl]; rfl
      go_wp2_with fail
      go_loopw [75] (fun i wr => ∃ j : Nat, i = .int .i64 j ∧ j ≤ 2 ∧ Below (w4.heap.size + 1) (w4.alloc (.cells #[.int .i64 k, .int .i64 K] 3)) wr) (fun i _ => 2 - (intOf i).toNat)
      case atStart => exact ⟨0, rfl, by omega, Below.refl _ _⟩
      case round =>
        obtain ⟨j, rfl, hj, hbr⟩ := hrel
        by_cases hj2 : j < 2
        · obtain ⟨kk, kk1, kk2, hcell⟩ : ∃ kk : Int, -9223372036854775808 ≤ kk ∧ kk ≤ 9223372036854775807 ∧ wr.cell? ⟨w4.heap.size, j, none⟩ = some (.int .i64 kk) := by
            obtain rfl | rfl : j = 0 ∨ j = 1 := by omega
            · exact ⟨k, k1, k2, (hbr.cell (p := ⟨w4.heap.size, 0, none⟩) (by simp)).trans d0⟩
            · exact ⟨K, by omega, by omega, (hbr.cell (p := ⟨w4.heap.size, 1, none⟩) (by simp)).trans d1⟩
          clear d0 d1
          have hwr := hbr.size
          simp only [World.size_alloc] at hwr
          obtain ⟨i1, i2, i3, hi⟩ : ∃ a b c, intS S.data.toList kk = (a, b, c) := ⟨_, _, _, rfl⟩
          obtain ⟨g1, g2, g3, hg⟩ : ∃ a b c, stringS S.data.toList kk = (a, b, c) := ⟨_, _, _, rfl⟩
          have HI := Lib.hid hi; have HG := Lib.hid hg; clear hi hg
          go_wp2_with fail
          refine (int_any _ _ (by omega) (by omega) (by omega) _).mono ?_
          rw [HI.out]; rintro e w6 ⟨rfl, rfl⟩; dsimp only [intV]
          go_wp2_with fail
          refine (refInt_any _ _ (by omega) (by omega) (by omega) _).mono ?_
          rw [HI.out]; rintro e w6 ⟨rfl, b6⟩; dsimp only [intV]
          go_wp2_with fail
          refine (string_any _ _ (by omega) (by omega) (by omega) _).mono ?_
          rw [HG.out]; rintro e w7 ⟨rfl, b7⟩; dsimp only [strV]
          go_wp2_with fail
          refine (refString_any _ _ (by omega) (by omega) (by omega) _).mono ?_
          rw [HG.out]; rintro e w8 ⟨rfl, b8⟩; dsimp only [strV]
          have r6 := hbr.trans (b6.mono hwr)
          have h6 := r6.size
          simp only [World.size_alloc] at h6
          have r7 := r6.trans (b7.mono h6)
          have h7 := r7.size
          simp only [World.size_alloc] at h7
          have r8 := r7.trans (b8.mono h7)
          clear h6 h7 hwr
          go_wp2
          go_roundw
          case rel => exact ⟨j + 1, by go_num, by omega, r8⟩
          case measure => simp [intOf]; omega
        · have q6 := q5.trans (hbr.mono (by omega))
          clear d0 d1
          obtain ⟨l, er, hp⟩ : ∃ l er, putStringS S.data.toList = (l, er) := ⟨_, _, rfl⟩
          have HP := Lib.hid hp; clear hp
          go_wp2_with fail
          refine (putString_any _ (by omega) _).mono ?_
          rw [HP.out]; rintro e w6 ⟨rfl, b6⟩
          go_wp2_with fail
          refine (refPutString_any _ (by omega) _).mono ?_
          rw [HP.out]; rintro e w7 ⟨rfl, b7⟩
          have q7 := q6.trans (b6.mono q6.size)
          have q8 := q7.trans (b7.mono q7.size)
          have ht2 := Lib.hid (HT.out.below q8 hsz)
          go_wp2_with (first | (go_at_call 21; refine (sum_any _ (by omega) _ ht2.out).mono ?_; rintro e w9 ⟨rfl, rfl⟩) | (go_at_call 22; refine (refSum_any _ (by omega) _).mono ?_; rintro e w9 ⟨rfl, rfl⟩))
          go_ret
          exact ⟨by simp, q8⟩
end Go.Proofs.YtcmeplgkillbdaaDoor
