/- dialtonelaw01.NumberFrom: an integer that has an encoding. -/
import Derived.Test.YtcmeplgkillbdaaDoorLeaf
namespace Go.Proofs.YtcmeplgkillbdaaDoor
open Go.RowKit

def numL : List Int := [64, 128, 8192, 16384, 1073741824, 36028797018963968, 576460752303423488, 2]
def numN (c : Int) : Int := if 8 ≤ pickN c 16 then -(pickN (pickN c 4611686018427387904 / 8) (numL.getD (pickN c 8).toNat 0)) else pickN (pickN c 4611686018427387904 / 8) (numL.getD (pickN c 8).toNat 0)
theorem pickN_in (c n : Int) (h : 1 ≤ n) : 0 ≤ pickN c n ∧ pickN c n < n := by
  unfold pickN
  exact ⟨Int.emod_nonneg _ (by omega), Int.emod_lt_of_pos _ (by omega)⟩
theorem num_in (c : Int) : -4611686018427387903 ≤ numN c ∧ numN c ≤ 4611686018427387903 := by
  have h8 := pickN_in c 8 (by omega)
  have : ∀ m ∈ numL, 1 ≤ m ∧ m ≤ 576460752303423488 := by decide
  have hm : numL.getD (pickN c 8).toNat 0 ∈ numL := by
    have hl : (pickN c 8).toNat < numL.length := by show _ < 8; omega
    rw [List.getD_eq_getElem?_getD, List.getElem?_eq_getElem hl]
    exact List.getElem_mem hl
  have h1 := this _ hm
  have h2 := pickN_in (pickN c 4611686018427387904 / 8) _ h1.1
  unfold numN
  split <;> omega

theorem num_pos {c : Int} {j : Nat} (hj : pickN c 8 = j) (h : ¬ 8 ≤ pickN c 16) : numN c = pickN (pickN c 4611686018427387904 / 8) (numL.getD j 0) := by
  rw [numN, if_neg h, hj]; rfl
theorem num_neg {c : Int} {j : Nat} (hj : pickN c 8 = j) (h : 8 ≤ pickN c 16) : numN c = -(pickN (pickN c 4611686018427387904 / 8) (numL.getD j 0)) := by
  rw [numN, if_pos h, hj]; rfl

set_option maxRecDepth 100000 in
set_option maxHeartbeats 4000000 in
theorem number_any (c : Int) (c1 : -9223372036854775808 ≤ c) (c2 : c ≤ 9223372036854775807) (w : World) :
    Calls Tryd.prog 11 #[.int .i64 c] w fun e w' => e = .returned (.int .i64 (numN c)) ∧ Below w.heap.size w w' := by
  have h8 := pickN_in c 8 (by omega)
  have h62 := pickN_in c 4611686018427387904 (by omega)
  have h16 := pickN_in c 16 (by omega)
  have hn := num_in c
  obtain ⟨j, hj⟩ := Int.eq_ofNat_of_zero_le h8.1
  have hjlt : j < 8 := by omega
  obtain ⟨q, hq⟩ : ∃ q, q = pickN c 4611686018427387904 := ⟨_, rfl⟩
  have e16 : ∀ r, r = pickN c 16 → 0 ≤ r := by omega
  have hb : Below w.heap.size w (w.alloc (.cells #[.int .i64 64, .int .i64 128, .int .i64 8192, .int .i64 16384, .int .i64 1073741824, .int .i64 36028797018963968, .int .i64 576460752303423488, .int .i64 2] 3)) := (Below.refl _ w).alloc (Nat.le_refl _) _
  obtain rfl | rfl | rfl | rfl | rfl | rfl | rfl | rfl : j = 0 ∨ j = 1 ∨ j = 2 ∨ j = 3 ∨ j = 4 ∨ j = 5 ∨ j = 6 ∨ j = 7 := by omega
  all_goals
    by_cases h : 8 ≤ pickN c 16
    · have hN := num_neg hj h
      have HN := Lib.hid hN; have HJ := Lib.hid hj; clear hN hj hq e16 h8
      simp only [numL, List.getD_eq_getElem?_getD, List.getElem?_cons_zero, List.getElem?_cons_succ, Option.getD_some] at HN
      go_enter Tryd.func11, Tryd.ntmps11
      go_wp2_with fail
      refine (pick_any _ _ _ (by omega) (by omega) (by omega) (by omega)).mono ?_
      rintro e w1 ⟨rfl, rfl⟩
      go_wp2_with fail
      refine (pick_any _ _ _ (by omega) (by omega) (by omega) (by omega)).mono ?_
      rw [HJ.out]
      rintro e w1 ⟨rfl, rfl⟩
      go_wp2_with fail
      refine (pick_any _ _ _ (by omega) (by omega) (by omega) (by omega)).mono ?_
      rintro e w1 ⟨rfl, rfl⟩
      go_wp2_with fail
      refine (pick_any _ _ _ (by omega) (by omega) (by omega) (by omega)).mono ?_
      rintro e w1 ⟨rfl, rfl⟩
      have hx := HN.out
      have hlo := hn.1
      have hhi := hn.2
      rw [hx] at hlo hhi
      clear hx hn
      go_wp2
      go_ret
      exact ⟨ret_int HN.out.symm, hb⟩
    · have hN := num_pos hj h
      have HN := Lib.hid hN; have HJ := Lib.hid hj; clear hN hj hq e16 h8
      simp only [numL, List.getD_eq_getElem?_getD, List.getElem?_cons_zero, List.getElem?_cons_succ, Option.getD_some] at HN
      go_enter Tryd.func11, Tryd.ntmps11
      go_wp2_with fail
      refine (pick_any _ _ _ (by omega) (by omega) (by omega) (by omega)).mono ?_
      rintro e w1 ⟨rfl, rfl⟩
      go_wp2_with fail
      refine (pick_any _ _ _ (by omega) (by omega) (by omega) (by omega)).mono ?_
      rw [HJ.out]
      rintro e w1 ⟨rfl, rfl⟩
      go_wp2_with fail
      refine (pick_any _ _ _ (by omega) (by omega) (by omega) (by omega)).mono ?_
      rintro e w1 ⟨rfl, rfl⟩
      go_wp2_with fail
      refine (pick_any _ _ _ (by omega) (by omega) (by omega) (by omega)).mono ?_
      rintro e w1 ⟨rfl, rfl⟩
      go_wp2
      go_ret
      exact ⟨ret_int HN.out.symm, hb⟩
end Go.Proofs.YtcmeplgkillbdaaDoor
