/- ClockMatchesReference: for every input the law returns true, and each argument reads afterwards as it read before (the first form). Conditions: none of mine; the row's own cells. -/
import Derived.Test.YtjhcdkllneeijaaFrame
import Derived.Test.YtjhcdkllneeijaaFrm2
import Derived.Test.YtjhcdkllneeijaaMat
import Derived.Test.YtjhcdkllneeijaaSane
namespace Go.Proofs.Ytjhcdkllneeijaa.pClockMatchesReference
open Go.ChangeShapes Go.WideShapes Go.ChangeAt Go.RowKit
open Go.ChangeMaps (open_string shut_string)
set_option linter.unusedVariables false
set_option maxRecDepth 100000 in
theorem contract (H : Type) (enc : TypeId × Value → H) (W : World) (base : Nat) (args : Array Value) (ds gs : List (DataW H)) (before : List MemPlace)
    (hval : ∀ (j : Nat) t v, Try.f3.params[j]? = some t → args[j]? = some v → Value.okWide Try.prog W .any base t v)
    (hW : DataW.Whole enc Try.prog Try.f3.params.toList Rows.clockMatchesReferenceSpec.vars false W args.toList ds gs before)
    : Calls Try.prog 3 args W fun e W' => ∃ v, e = .returned v ∧ Rows.clockMatchesReferenceSpec.post enc Try.prog Try.f3 false true false false W args v W' := by
  have hW' := hW
  obtain ⟨p, q, hA0, hV, rfl, hfz, hnd⟩ := hW
  have hA : DataW.TrodAll enc Try.prog W 0 (fun _ => true) true Try.f3.params.toList args.toList ds p := hA0
  rw [Try.params3] at hA hval
  have kA := hA
  obtain ⟨rfl, rfl⟩ := trodVars_none hV
  have hlt : ∀ x ∈ p, x.block < W.heap.size := fun x hx => by simpa using hW'.lt x (by simpa using hx)
  obtain ⟨v0, vs0, d0, ds0, p0, q0, hargs, rfl, rfl, h0, r0⟩ := trodAll_cons hA
  obtain ⟨v1, vs1, d1, ds1, p1, q1, rfl, rfl, rfl, h1, r1⟩ := trodAll_cons r0
  obtain ⟨v2, vs2, d2, ds2, p2, q2, rfl, rfl, rfl, h2, r2⟩ := trodAll_cons r1
  obtain ⟨v3, vs3, d3, ds3, p3, q3, rfl, rfl, rfl, h3, r3⟩ := trodAll_cons r2
  obtain ⟨v4, vs4, d4, ds4, p4, q4, rfl, rfl, rfl, h4, r4⟩ := trodAll_cons r3
  obtain ⟨v5, vs5, d5, ds5, p5, q5, rfl, rfl, rfl, h5, r5⟩ := trodAll_cons r4
  obtain ⟨v6, vs6, d6, ds6, p6, q6, rfl, rfl, rfl, h6, r6⟩ := trodAll_cons r5
  obtain ⟨v7, vs7, d7, ds7, p7, q7, rfl, rfl, rfl, h7, r7⟩ := trodAll_cons r6
  obtain ⟨rfl, rfl, rfl⟩ := trodAll_nil r7
  obtain rfl : args = #[v0, v1, v2, v3, v4, v5, v6, v7] := by cases args; simp_all
  obtain ⟨raw_d, raw_a, raw_cap, raw, rfl, w_raw, b_raw, c_raw, l_raw⟩ := open_clock2 (hval 0 24 v0 rfl rfl) h0
  obtain ⟨drift, rfl, rfl, rfl, w_drift⟩ := open_int Try.underlying3 (hval 1 3 v1 rfl rfl) h1
  have b_drift := bounds_i64 w_drift
  obtain ⟨start, rfl, rfl, rfl, w_start⟩ := open_int Try.underlying3 (hval 2 3 v2 rfl rfl) h2
  have b_start := bounds_i64 w_start
  obtain ⟨rates_a, rates_cap, rates, rfl, w_rates, b_rates, l_rates⟩ := open_nums Try.underlying25 Try.underlying3 (by kernel_rfl) (hval 3 25 v3 rfl rfl) h3
  obtain ⟨at__a, at__cap, at_, rfl, w_at_, b_at_, l_at_⟩ := open_trips Try.underlying26 (by kernel_rfl) (elem_arr Try.underlying60 Try.underlying3 ⟨by kernel_rfl, by kernel_rfl⟩) (hval 4 26 v4 rfl rfl) h4
  obtain ⟨local_, rfl, rfl, rfl, w_local_⟩ := open_int Try.underlying3 (hval 5 3 v5 rfl rfl) h5
  have b_local_ := bounds_i64 w_local_
  obtain ⟨t, rfl, rfl, rfl, w_t⟩ := open_int Try.underlying3 (hval 6 3 v6 rfl rfl) h6
  have b_t := bounds_i64 w_t
  obtain ⟨l_a, l_cap, l, rfl, w_l, b_l, l_l⟩ := open_spells2 (hval 7 27 v7 rfl rfl) h7
  have walk : Calls Try.prog 3 #[.agg #[.int .i64 raw_d, .slice raw_a raw.length raw_cap], .int .i64 drift, .int .i64 start, .slice rates_a rates.length rates_cap, .slice at__a at_.length at__cap, .int .i64 local_, .int .i64 t, .slice l_a l.length l_cap] W fun e w' => e = .returned (.bool true) ∧ Below W.heap.size W w' := by
    exact matches_walk raw_d raw_a raw_cap raw drift start local_ t rates rates_a rates_cap at_ at__a at__cap l l_a l_cap l_raw b_drift b_start b_local_ b_t b_rates l_rates b_at_ l_at_ l_l W w_raw w_rates w_at_ w_l sane_any
  refine walk.mono fun e W' ⟨he, bel⟩ => ?_
  subst he
  exact ⟨_, rfl, _, _, _, [], _, [], hW', trodAll_mk1 (shut_bool Try.underlying4 _), trodAll_below laidOut kA bel hlt (of_decide_eq_true (by kernel_rfl)), rfl, bel.frame _, fun h => by cases h⟩

noncomputable def laidWorld (os : Os) : World := Frame.laidWorld os
theorem laid_met (os : Os) : laidMet Try.prog Rows.clockMatchesReferenceRow.laid ((laidWorld os).forCall (fun _ _ => 0) ⟨#[], #[(.agg #[.int .i64 0, .slice none 0 0] : Value), (.int .i64 0 : Value), (.int .i64 0 : Value), (.slice none 0 0 : Value), (.slice none 0 0 : Value), (.int .i64 0 : Value), (.int .i64 0 : Value), (.slice none 0 0 : Value)], []⟩).memory := laidMet_of_run' 40 (by kernel_rfl) (by kernel_rfl)
theorem reads (os : Os) {H : Type} (enc : TypeId × Value → H) : ∃ places, DataW.whole enc Try.prog ((laidWorld os).forCall (fun _ _ => 0) ⟨#[], #[(.agg #[.int .i64 0, .slice none 0 0] : Value), (.int .i64 0 : Value), (.int .i64 0 : Value), (.slice none 0 0 : Value), (.slice none 0 0 : Value), (.int .i64 0 : Value), (.int .i64 0 : Value), (.slice none 0 0 : Value)], []⟩).memory Try.f3.params.toList Rows.clockMatchesReferenceSpec.vars false (#[(.agg #[.int .i64 0, .slice none 0 0] : Value), (.int .i64 0 : Value), (.int .i64 0 : Value), (.slice none 0 0 : Value), (.slice none 0 0 : Value), (.int .i64 0 : Value), (.int .i64 0 : Value), (.slice none 0 0 : Value)] : Array Value).toList 8 = some ([.agg [.lit (.int .i64 0), .nil], .lit (.int .i64 0), .lit (.int .i64 0), .nil, .nil, .lit (.int .i64 0), .lit (.int .i64 0), .nil], [], places) := ⟨[], by kernel_rfl⟩
set_option maxRecDepth 100000 in
theorem lifted (os : Os) (started : os.Started) (H : Type) (enc : TypeId × Value → H) (F : Stop.Interp) :
    ReturnsInHanded {} Try.checked os 3 .any ((OpenSpec.ofChange Rows.clockMatchesReferenceSpec).preRow enc Try.prog Try.f3 Rows.clockMatchesReferenceRow.domain false Rows.clockMatchesReferenceRow.laid) (((OpenSpec.ofChange Rows.clockMatchesReferenceSpec).at F).post enc Try.prog Try.f3 false true false false) := by
  obtain ⟨places, hx⟩ := reads os enc
  refine returnsInHanded_of_row (C := Try.checked) (s := (OpenSpec.ofChange Rows.clockMatchesReferenceSpec)) own started (by kernel_rfl) Try.func3
    (witness_row_at (enc := enc) (C := Try.checked) false (laidWorld os) #[(.agg #[.int .i64 0, .slice none 0 0] : Value), (.int .i64 0 : Value), (.int .i64 0 : Value), (.slice none 0 0 : Value), (.slice none 0 0 : Value), (.int .i64 0 : Value), (.int .i64 0 : Value), (.slice none 0 0 : Value)] rfl (by kernel_rfl) (by kernel_rfl) (by kernel_rfl)
      (OpenSpec.preRow_of_cond 8 hx (by kernel_rfl) (fun k hk => by cases hk) (by kernel_rfl) (laid_met os))) ?_
  intro W base args ds gs before hval hW _ hcond _ hL _ _
  exact contract H enc W base args ds gs before hval hW
theorem said : Rows.ClockMatchesReferenceSaid :=
  OpenClaim.holds_of_cond 3 Try.f3 rfl rfl rfl rfl rfl rfl rfl ⟨rfl, rfl, rfl, rfl, rfl⟩ rfl rfl rfl rfl rfl (by kernel_rfl) Try.func3 (by kernel_rfl)
    (of_decide_eq_true (by kernel_rfl)) (by unfold Func.isWrapper; first | (rw [if_pos (by decide +kernel)]; kernel_rfl) | (rw [if_neg (by decide +kernel)]; exact ⟨rfl, rfl⟩))
    (fun os started H enc _ F => by rw [OpenClaim.pre_eq_preRow]; exact lifted os started H enc F)
end Go.Proofs.Ytjhcdkllneeijaa.pClockMatchesReference
