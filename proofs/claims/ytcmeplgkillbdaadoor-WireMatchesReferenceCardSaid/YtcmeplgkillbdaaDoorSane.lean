/- dialtonelaw01.sane: true, where the table holds its numbers. -/
import Derived.Test.YtcmeplgkillbdaaDoorSum
import Derived.Test.YtcmeplgkillbdaaDoorStr
namespace Go.Proofs.YtcmeplgkillbdaaDoor
open Go.RowKit

theorem v1 : putIntS (-64) = ([127], 0) := by decide +kernel
theorem v2 : putIntS 64 = ([128, 1], 0) := by decide +kernel
theorem v3 : intS (⟨#[97, 172, 2, 98]⟩ : ByteArray).data.toList 1 = (150, 3, 0) := by decide +kernel
theorem v4 : intS (⟨#[128, 0]⟩ : ByteArray).data.toList 0 = (0, 0, 10) := by decide +kernel
theorem v5 : putStringS (⟨#[97, 98]⟩ : ByteArray).data.toList = ([4, 97, 98], 0) := by decide +kernel
theorem v6 : stringS (⟨#[4, 97, 98, 99]⟩ : ByteArray).data.toList 0 = ([97, 98], 3, 0) := by decide +kernel
theorem v7 : stringS (⟨#[4, 97]⟩ : ByteArray).data.toList 0 = ([], 0, 10) := by decide +kernel
theorem v8 : putIntS 4611686018427387904 = ([], 10) := by decide +kernel
theorem v9 : intS (⟨#[]⟩ : ByteArray).data.toList 1 = (0, 0, 2) := by decide +kernel
theorem v10 : crc (⟨#[49, 50, 51, 52, 53, 54, 55, 56, 57]⟩ : ByteArray).data.toList = 3808858755 := by decide +kernel

set_option maxRecDepth 100000 in
set_option maxHeartbeats 1000000 in
theorem sane_any (w : World) (ht : Tab w) (hsz : 0 < w.heap.size) :
    Calls Tryd.prog 10 #[] w fun e w' => e = .returned (.bool true) ∧ Below w.heap.size w w' := by
  have HT := Lib.hid ht; clear ht
  go_enter Tryd.func10, Tryd.ntmps10
  go_wp2_with fail
  refine (putInt_any _ (by omega) (by omega) _).mono ?_
  rw [v1]; rintro e w1 ⟨rfl, b1⟩
  go_wp2_with fail
  refine (putInt_any _ (by omega) (by omega) _).mono ?_
  rw [v2]; rintro e w2 ⟨rfl, b2⟩
  go_wp2_with fail
  refine (int_any _ _ (by omega) (by omega) (by decide) _).mono ?_
  rw [v3]; rintro e w3 ⟨rfl, rfl⟩; dsimp only [intV]
  go_wp2_with fail
  refine (int_any _ _ (by omega) (by omega) (by decide) _).mono ?_
  rw [v4]; rintro e w3 ⟨rfl, rfl⟩; dsimp only [intV]
  go_wp2_with fail
  refine (putString_any _ (by decide) _).mono ?_
  rw [v5]; rintro e w5 ⟨rfl, b5⟩
  go_wp2_with fail
  refine (string_any _ _ (by omega) (by omega) (by decide) _).mono ?_
  rw [v6]; rintro e w6 ⟨rfl, b6⟩; dsimp only [strV]
  go_wp2_with fail
  refine (string_any _ _ (by omega) (by omega) (by decide) _).mono ?_
  rw [v7]; rintro e w7 ⟨rfl, b7⟩; dsimp only [strV]
  go_wp2_with fail
  refine (putInt_any _ (by omega) (by omega) _).mono ?_
  rw [v8]; rintro e w8 ⟨rfl, b8⟩
  go_wp2_with fail
  refine (int_any _ _ (by omega) (by omega) (by decide) _).mono ?_
  rw [v9]; rintro e w9 ⟨rfl, rfl⟩; dsimp only [intV]
  have q1 := b1
  have q2 := q1.trans (b2.mono q1.size)
  have q5 := q2.trans (b5.mono q2.size)
  have q6 := q5.trans (b6.mono q5.size)
  have q7 := q6.trans (b7.mono q6.size)
  have q8 := q7.trans (b8.mono q7.size)
  have ht8 := Lib.hid (HT.out.below q8 hsz)
  go_wp2_with (go_at_call 21; refine (sum_any _ (by decide) _ ht8.out).mono ?_; rw [v10]; rintro e w10 ⟨rfl, rfl⟩)
  go_ret
  exact ⟨rfl, q8⟩
end Go.Proofs.YtcmeplgkillbdaaDoor
