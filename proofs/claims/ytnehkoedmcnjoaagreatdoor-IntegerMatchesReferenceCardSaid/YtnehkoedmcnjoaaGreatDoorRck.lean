/- The reference's checked: a text, or the error of too many digits. -/
import Derived.Test.YtnehkoedmcnjoaaGreatDoorBd
import Derived.Test.YtnehkoedmcnjoaaGreatDoorRdv
namespace Go.Proofs.YtnehkoedmcnjoaaGreatDoor
open Go.RowKit

theorem fits_len (b : Bool) (n L : Nat) (h : L = (dg n).length) : (L ≤ 200) ↔ fits (sgn b n) = true := by
  rw [fits, sgn_abs, decide_eq_true_eq, h]
  exact dg_len n 200
theorem outT_out {z : Int} (h : ¬ fits z = true) : outT z = ⟨#[]⟩ := outT_not (by simpa using h)
theorem outE_out {z : Int} (h : ¬ fits z = true) : outE z = 30 := outE_not (by simpa using h)

set_option maxRecDepth 100000 in
set_option maxHeartbeats 2000000 in
theorem rcheck_any (b : Bool) (A : Option Addr) (L c n : Nat) (m : L ≤ 2000) (w : World) (h : Dl w w.heap.size A L c (dg n)) :
    Calls Tryz.prog 34 #[.bool b, .slice A L c] w fun e w' => e = .returned (.tuple #[.string (outT (sgn b n)), .int .i64 (outE (sgn b n))]) ∧ Below w.heap.size w w' := by
  have cT := reftext_any b A L c n m w h
  have hf := fits_len b n L h.len
  by_cases hL : L ≤ 200
  · rw [outT_fits (hf.1 hL), outE_fits (hf.1 hL)]
    rw [decide_eq_true hL] at cT
    obtain ⟨S, hS⟩ : ∃ S, S = dec (sgn b n) := ⟨_, rfl⟩
    rw [← hS] at cT ⊢
    clear hf hL hS h m
    go_enter Tryz.func34, Tryz.ntmps34
    go_wp2_with (first | (go_at_call 26; (with_reducible refine cT.mono ?_); rintro e w' ⟨rfl, hb⟩) | fail)
    go_ret2
    exact ⟨rfl, hb⟩
  · have hf2 : ¬ fits (sgn b n) = true := fun e => hL (hf.2 e)
    rw [outT_out hf2, outE_out hf2]
    rw [decide_eq_false hL] at cT
    obtain ⟨S, hS⟩ : ∃ S, S = dec (sgn b n) := ⟨_, rfl⟩
    rw [← hS] at cT
    clear hf hL hS h m hf2
    go_enter Tryz.func34, Tryz.ntmps34
    go_wp2_with (first | (go_at_call 26; (with_reducible refine cT.mono ?_); rintro e w' ⟨rfl, hb⟩) | fail)
    go_ret2
    exact ⟨rfl, hb⟩
end Go.Proofs.YtnehkoedmcnjoaaGreatDoor
