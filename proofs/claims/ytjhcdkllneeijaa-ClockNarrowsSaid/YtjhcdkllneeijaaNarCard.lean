/- ClockNarrows: for every input the law returns true, and each argument reads afterwards as it read before (the first form). Conditions: none of mine; the row's own cells. -/
import Derived.Test.YtjhcdkllneeijaaFrame
import Derived.Test.YtjhcdkllneeijaaNar
import Derived.Test.YtjhcdkllneeijaaSane
namespace Go.Proofs.Ytjhcdkllneeijaa.pClockNarrows
open Go.ChangeShapes Go.WideShapes Go.ChangeAt Go.RowKit
open Go.ChangeMaps (open_string shut_string)
set_option linter.unusedVariables false
set_option maxRecDepth 100000 in
theorem contract (H : Type) (enc : TypeId × Value → H) (W : World) (base : Nat) (args : Array Value) (ds gs : List (DataW H)) (before : List MemPlace)
    (hval : ∀ (j : Nat) t v, Try.f6.params[j]? = some t → args[j]? = some v → Value.okWide Try.prog W .any base t v)
    (hW : DataW.Whole enc Try.prog Try.f6.params.toList Rows.clockNarrowsSpec.vars false W args.toList ds gs before)
    : Calls Try.prog 6 args W fun e W' => ∃ v, e = .returned v ∧ Rows.clockNarrowsSpec.post enc Try.prog Try.f6 false true false false W args v W' := by
  have hW' := hW
  obtain ⟨p, q, hA0, hV, rfl, hfz, hnd⟩ := hW
  have hA : DataW.TrodAll enc Try.prog W 0 (fun _ => true) true Try.f6.params.toList args.toList ds p := hA0
  rw [Try.params6] at hA hval
  have kA := hA
  obtain ⟨rfl, rfl⟩ := trodVars_none hV
  have hlt : ∀ x ∈ p, x.block < W.heap.size := fun x hx => by simpa using hW'.lt x (by simpa using hx)
  obtain ⟨v0, vs0, d0, ds0, p0, q0, hargs, rfl, rfl, h0, r0⟩ := trodAll_cons hA
  obtain ⟨v1, vs1, d1, ds1, p1, q1, rfl, rfl, rfl, h1, r1⟩ := trodAll_cons r0
  obtain ⟨v2, vs2, d2, ds2, p2, q2, rfl, rfl, rfl, h2, r2⟩ := trodAll_cons r1
  obtain ⟨v3, vs3, d3, ds3, p3, q3, rfl, rfl, rfl, h3, r3⟩ := trodAll_cons r2
  obtain ⟨v4, vs4, d4, ds4, p4, q4, rfl, rfl, rfl, h4, r4⟩ := trodAll_cons r3
  obtain ⟨v5, vs5, d5, ds5, p5, q5, rfl, rfl, rfl, h5, r5⟩ := trodAll_cons r4
  obtain ⟨v6, vs6, d6, ds6, p6, q6, rfl, rfl, rfl, h6, r6⟩ := trodAll_cons r5
  obtain ⟨rfl, rfl, rfl⟩ := trodAll_nil r6
  obtain rfl : args = #[v0, v1, v2, v3, v4, v5, v6] := by cases args; simp_all
  obtain ⟨drift, rfl, rfl, rfl, w_drift⟩ := open_int Try.underlying3 (hval 0 3 v0 rfl rfl) h0
  have b_drift := bounds_i64 w_drift
  obtain ⟨start, rfl, rfl, rfl, w_start⟩ := open_int Try.underlying3 (hval 1 3 v1 rfl rfl) h1
  have b_start := bounds_i64 w_start
  obtain ⟨rates_a, rates_cap, rates, rfl, w_rates, b_rates, l_rates⟩ := open_nums Try.underlying25 Try.underlying3 (by kernel_rfl) (hval 2 25 v2 rfl rfl) h2
  obtain ⟨at__a, at__cap, at_, rfl, w_at_, b_at_, l_at_⟩ := open_trips Try.underlying26 (by kernel_rfl) (elem_arr Try.underlying60 Try.underlying3 ⟨by kernel_rfl, by kernel_rfl⟩) (hval 3 26 v3 rfl rfl) h3
  obtain ⟨which, rfl, rfl, rfl, w_which⟩ := open_int Try.underlying3 (hval 4 3 v4 rfl rfl) h4
  have b_which := bounds_i64 w_which
  obtain ⟨by_0, by_1, rfl, b_by_0, b_by_1⟩ := open_int2 Try.underlying48 Try.underlying3 (by kernel_rfl) (by kernel_rfl) (hval 5 48 v5 rfl rfl) h5
  obtain ⟨local_, rfl, rfl, rfl, w_local_⟩ := open_int Try.underlying3 (hval 6 3 v6 rfl rfl) h6
  have b_local_ := bounds_i64 w_local_
  have walk : Calls Try.prog 6 #[.int .i64 drift, .int .i64 start, .slice rates_a rates.length rates_cap, .slice at__a at_.length at__cap, .int .i64 which, .agg #[.int .i64 by_0, .int .i64 by_1], .int .i64 local_] W fun e w' => e = .returned (.bool true) ∧ Below W.heap.size W w' := by
    exact narrows_walk drift start which by_0 by_1 local_ rates rates_a rates_cap at_ at__a at__cap b_drift b_start b_which b_by_0 b_by_1 b_local_ b_rates l_rates b_at_ l_at_ W w_rates w_at_ sane_any
  refine walk.mono fun e W' ⟨he, bel⟩ => ?_
  subst he
  exact ⟨_, rfl, _, _, _, [], _, [], hW', trodAll_mk1 (shut_bool Try.underlying4 _), trodAll_below laidOut kA bel hlt (of_decide_eq_true (by kernel_rfl)), rfl, bel.frame _, fun h => by cases h⟩

noncomputable def laidWorld (os : Os) : World := Frame.laidWorld os
theorem laid_met (os : Os) : laidMet Try.prog Rows.clockNarrowsRow.laid ((laidWorld os).forCall (fun _ _ => 0) ⟨#[], #[(.int .i64 0 : Value), (.int .i64 0 : Value), (.slice none 0 0 : Value), (.slice none 0 0 : Value), (.int .i64 0 : Value), (.agg #[.int .i64 0, .int .i64 0] : Value), (.int .i64 0 : Value)], []⟩).memory := laidMet_of_run' 40 (by kernel_rfl) (by kernel_rfl)
theorem reads (os : Os) {H : Type} (enc : TypeId × Value → H) : ∃ places, DataW.whole enc Try.prog ((laidWorld os).forCall (fun _ _ => 0) ⟨#[], #[(.int .i64 0 : Value), (.int .i64 0 : Value), (.slice none 0 0 : Value), (.slice none 0 0 : Value), (.int .i64 0 : Value), (.agg #[.int .i64 0, .int .i64 0] : Value), (.int .i64 0 : Value)], []⟩).memory Try.f6.params.toList Rows.clockNarrowsSpec.vars false (#[(.int .i64 0 : Value), (.int .i64 0 : Value), (.slice none 0 0 : Value), (.slice none 0 0 : Value), (.int .i64 0 : Value), (.agg #[.int .i64 0, .int .i64 0] : Value), (.int .i64 0 : Value)] : Array Value).toList 8 = some ([.lit (.int .i64 0), .lit (.int .i64 0), .nil, .nil, .lit (.int .i64 0), .agg [.lit (.int .i64 0), .lit (.int .i64 0)], .lit (.int .i64 0)], [], places) := ⟨[], by kernel_rfl⟩
set_option maxRecDepth 100000 in
theorem lifted (os : Os) (started : os.Started) (H : Type) (enc : TypeId × Value → H) (F : Stop.Interp) :
    ReturnsInHanded {} Try.checked os 6 .any ((OpenSpec.ofChange Rows.clockNarrowsSpec).preRow enc Try.prog Try.f6 Rows.clockNarrowsRow.domain false Rows.clockNarrowsRow.laid) (((OpenSpec.ofChange Rows.clockNarrowsSpec).at F).post enc Try.prog Try.f6 false true false false) := by
  obtain ⟨places, hx⟩ := reads os enc
  refine returnsInHanded_of_row (C := Try.checked) (s := (OpenSpec.ofChange Rows.clockNarrowsSpec)) own started (by kernel_rfl) Try.func6
    (witness_row_at (enc := enc) (C := Try.checked) false (laidWorld os) #[(.int .i64 0 : Value), (.int .i64 0 : Value), (.slice none 0 0 : Value), (.slice none 0 0 : Value), (.int .i64 0 : Value), (.agg #[.int .i64 0, .int .i64 0] : Value), (.int .i64 0 : Value)] rfl (by kernel_rfl) (by kernel_rfl) (by kernel_rfl)
      (OpenSpec.preRow_of_cond 8 hx (by kernel_rfl) (fun k hk => by cases hk) (by kernel_rfl) (laid_met os))) ?_
  intro W base args ds gs before hval hW _ hcond _ hL _ _
  exact contract H enc W base args ds gs before hval hW
theorem said : Rows.ClockNarrowsSaid :=
  OpenClaim.holds_of_cond 6 Try.f6 rfl rfl rfl rfl rfl rfl rfl ⟨rfl, rfl, rfl, rfl, rfl⟩ rfl rfl rfl rfl rfl (by kernel_rfl) Try.func6 (by kernel_rfl)
    (of_decide_eq_true (by kernel_rfl)) (by unfold Func.isWrapper; first | (rw [if_pos (by decide +kernel)]; kernel_rfl) | (rw [if_neg (by decide +kernel)]; exact ⟨rfl, rfl⟩))
    (fun os started H enc _ F => by rw [OpenClaim.pre_eq_preRow]; exact lifted os started H enc F)
end Go.Proofs.Ytjhcdkllneeijaa.pClockNarrows
