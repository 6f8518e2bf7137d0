/- The reference's digits, of every valid integer. -/
import Derived.Test.YtnehkoedmcnjoaaGreatDoorRdh
import Derived.Test.YtnehkoedmcnjoaaGreatDoorDlm
namespace Go.Proofs.YtnehkoedmcnjoaaGreatDoor
open Go.RowKit

theorem rdigits_any (a : ByteArray) (hv : validB a.data.toList = true) (w : World) :
    Calls Tryz.prog 30 #[.string a] w fun e w' => ∃ A L c, e = .returned (.tuple #[.bool (decide (numB a < 0)), .slice A L c]) ∧ Dl w' w'.heap.size A L c (dg (numB a).natAbs) ∧ Below w.heap.size w w' := by
  have hf := fits_abs (fits_num hv)
  have e := dec_numB a hv
  generalize numB a = z at e hf ⊢
  rw [← e]
  clear e hv
  by_cases h : z < 0
  · rw [decide_eq_true h, dec_neg' h]
    have hn : 0 < z.natAbs := by omega
    exact rdigits_neg z.natAbs _ hn hf (magN z.natAbs) rfl (magN_size _ hn).symm (ne_zero (magN_ne _ hn)) (fun m d J hJ hd hj => magN_at hn hd (hj.trans (magN_size _ hn)) hJ) (str (45 :: Lib.decDigits z.natAbs)) (show 0 < (Lib.decDigits z.natAbs).length + 1 from Nat.succ_pos _) rfl (extract_one _ _) w
  · rw [decide_eq_false h, dec_pos' h]
    by_cases h0 : z = 0
    · subst h0
      rw [show (0 : Int).natAbs = 0 from rfl, magN_zero]
      exact rdigits_zero w
    · have hn : 0 < z.natAbs := by omega
      exact rdigits_pos z.natAbs _ hn hf (magN z.natAbs) rfl (magN_size _ hn).symm (ne_zero (magN_ne _ hn)) (fun m d J hJ hd hj => magN_at hn hd (hj.trans (magN_size _ hn)) hJ) _ (magN_pos _) rfl (by
        rw [beq_eq_false_iff_ne]
        intro e
        have hp := magN_pos z.natAbs
        exact head_dec hp (UInt8.toNat_inj.1 (by show ((magN z.natAbs)[0]'hp).toNat = 45; omega))) w
end Go.Proofs.YtnehkoedmcnjoaaGreatDoor
