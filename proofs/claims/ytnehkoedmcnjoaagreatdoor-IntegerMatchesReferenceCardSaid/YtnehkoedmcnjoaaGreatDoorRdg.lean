/- The reference's digits: an integer's sign and its digits. -/
import Derived.Test.YtnehkoedmcnjoaaGreatDoorRdv
import Derived.Test.YtnehkoedmcnjoaaGreatDoorBd
namespace Go.Proofs.YtnehkoedmcnjoaaGreatDoor
open Go.RowKit

/-- The digits of a number, the highest first, as a string. -/
def magN (n : Nat) : ByteArray := str (Lib.decDigits n)
theorem magN_zero : magN 0 = ⟨#[48]⟩ := by rw [magN, decDigits_zero]; rfl
theorem magN_list (n : Nat) (h : 0 < n) : (magN n).data.toList = wrt (dg n) := by rw [magN, wrt_dg n h]; rfl
theorem magN_size (n : Nat) (h : 0 < n) : (magN n).size = (dg n).length := by
  have := congrArg List.length (magN_list n h)
  rw [wrt_len, Array.length_toList] at this
  exact this
theorem magN_ne (n : Nat) (h : 0 < n) : ¬ magN n = ⟨#[48]⟩ := fun e => by
  have := decDigits_head n h
  have e2 : Lib.decDigits n = [48] := congrArg (fun s : ByteArray => s.data.toList) e
  rw [e2] at this
  exact this rfl
theorem wrt_at {l : List Nat} {j m d : Nat} (h : l[m]? = some d) (hj : j + 1 + m = l.length) : (wrt l)[j]? = some (UInt8.ofNat (48 + d)) := by
  rw [wrt, List.getElem?_map, List.getElem?_reverse (by omega), show l.length - 1 - j = m by omega, h]; rfl
theorem magN_at {n m d J : Nat} (h0 : 0 < n) (h : (dg n)[m]? = some d) (hj : J + 1 + m = (dg n).length) (hJ : J < (magN n).size) : (((magN n)[J].toNat : Nat) : Int) = 48 + (d : Int) := by
  have hd := (dg_small n).at h
  have h1 := wrt_at h hj
  rw [← magN_list n h0, List.getElem?_eq_getElem (by rw [Array.length_toList]; exact hJ)] at h1
  have h2 : (magN n)[J] = UInt8.ofNat (48 + d) := Option.some.inj h1
  rw [h2, ofNat_toNat (by omega)]; omega
theorem dec_pos' {z : Int} (h : ¬ z < 0) : dec z = magN z.natAbs := by
  rw [dec, Lib.itoa, if_neg h, magN]
  congr 2; omega
theorem dec_neg' {z : Int} (h : z < 0) : dec z = str (45 :: Lib.decDigits z.natAbs) := by rw [dec, Lib.itoa, if_pos h]
theorem extract_one (b : UInt8) (l : List UInt8) : (str (b :: l)).extract 1 (str (b :: l)).size = str l := by
  apply ByteArray.ext
  rw [ByteArray.data_extract]
  apply Array.toList_inj.1
  rw [Array.toList_extract]
  show List.extract (b :: l) 1 (b :: l).length = l
  simp [List.extract]
theorem head_dec {n : Nat} (h : 0 < (magN n).size) : ¬ (magN n)[0] = 45 := fun e => by
  have h1 := head_not_minus n
  rw [show Lib.decDigits n = (magN n).data.toList from rfl, get_zero (magN n) h, e] at h1
  exact h1 rfl
theorem magN_pos (n : Nat) : 0 < (magN n).size := by
  have := List.length_pos_iff.2 (decDigits_ne n)
  exact this
theorem first_neg (a : ByteArray) (h0 : 0 < a.size) : (((a[0].toNat : Nat) : Int) == 45) = negB a := by
  have h1 : isNeg a.data.toList = (some a[0] == some 45) := by rw [isNeg, get_zero a h0]
  rw [negB, h1]
  by_cases h : a[0] = 45
  · rw [h]; rfl
  · have e1 : (((a[0].toNat : Nat) : Int) == 45) = false := by
      rw [beq_eq_false_iff_ne]
      intro e
      exact h (UInt8.toNat_inj.1 (by show a[0].toNat = 45; omega))
    have e2 : (some a[0] == some (45 : UInt8)) = false := by
      rw [beq_eq_false_iff_ne]
      exact fun e => h (Option.some.inj e)
    rw [e1, e2]
theorem negB_dec (z : Int) : negB (dec z) = decide (z < 0) := isNeg_itoa z
theorem dec_some (z : Int) : 0 < (dec z).size := by
  by_cases h : z < 0
  · rw [dec_neg' h]; exact Nat.succ_pos _
  · rw [dec_pos' h]; exact magN_pos _
theorem valid_some {a : ByteArray} (h : validB a.data.toList = true) : 0 < a.size := by rw [← dec_numB a h]; exact dec_some _
theorem fits_num {a : ByteArray} (h : validB a.data.toList = true) : fits (numB a) = true := num_fits _ h
theorem fits_abs {z : Int} (h : fits z = true) : z.natAbs < 10 ^ 200 := by rw [fits, decide_eq_true_eq] at h; exact h
theorem valid_first {a : ByteArray} (h : validB a.data.toList = true) (h0 : 0 < a.size) : (((a[0].toNat : Nat) : Int) == 45) = decide (numB a < 0) := by
  rw [first_neg a h0, ← negB_dec, dec_numB a h]

set_option maxRecDepth 100000 in
set_option maxHeartbeats 8000000 in
theorem rdigits_zero (w : World) :
    Calls Tryz.prog 30 #[.string ⟨#[48]⟩] w fun e w' => ∃ A L c, e = .returned (.tuple #[.bool false, .slice A L c]) ∧ Dl w' w'.heap.size A L c (dg 0) ∧ Below w.heap.size w w' := by
  go_enter Tryz.func30, Tryz.ntmps30
  go_wp2
  refine wp_loop_rounds 1 ?_
  rw [rounds_succ]
  go_wp2
  go_ret2
  exact ⟨_, _, _, rfl, by rw [dg_zero]; exact dl_nil _ _, Below.refl _ _⟩
end Go.Proofs.YtnehkoedmcnjoaaGreatDoor
