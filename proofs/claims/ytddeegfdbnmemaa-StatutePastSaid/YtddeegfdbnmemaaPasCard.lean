/- StatutePast: for every input the law returns true, and each argument reads afterwards as it read before (the first form). Conditions: none of mine; the row's own cells. -/
import Derived.Test.YtddeegfdbnmemaaFrame
import Derived.Test.YtddeegfdbnmemaaPas
import Derived.Test.YtddeegfdbnmemaaSn
namespace Go.Proofs.Ytddeegfdbnmemaa.pStatutePast
open Go.ChangeShapes Go.WideShapes Go.ChangeAt Go.RowKit
open Go.ChangeMaps (open_string shut_string)
set_option linter.unusedVariables false
set_option maxRecDepth 100000 in
theorem contract (H : Type) (enc : TypeId × Value → H) (W : World) (base : Nat) (args : Array Value) (ds gs : List (DataW H)) (before : List MemPlace)
    (hval : ∀ (j : Nat) t v, Try.f4.params[j]? = some t → args[j]? = some v → Value.okWide Try.prog W .any base t v)
    (hW : DataW.Whole enc Try.prog Try.f4.params.toList Rows.statutePastSpec.vars false W args.toList ds gs before)
    : Calls Try.prog 4 args W fun e W' => ∃ v, e = .returned v ∧ Rows.statutePastSpec.post enc Try.prog Try.f4 false true false false W args v W' := by
  have hW' := hW
  obtain ⟨p, q, hA0, hV, rfl, hfz, hnd⟩ := hW
  have hA : DataW.TrodAll enc Try.prog W 0 (fun _ => true) true Try.f4.params.toList args.toList ds p := hA0
  rw [Try.params4] at hA hval
  have kA := hA
  obtain ⟨rfl, rfl⟩ := trodVars_none hV
  have hlt : ∀ x ∈ p, x.block < W.heap.size := fun x hx => by simpa using hW'.lt x (by simpa using hx)
  obtain ⟨v0, vs0, d0, ds0, p0, q0, hargs, rfl, rfl, h0, r0⟩ := trodAll_cons hA
  obtain ⟨v1, vs1, d1, ds1, p1, q1, rfl, rfl, rfl, h1, r1⟩ := trodAll_cons r0
  obtain ⟨v2, vs2, d2, ds2, p2, q2, rfl, rfl, rfl, h2, r2⟩ := trodAll_cons r1
  obtain ⟨v3, vs3, d3, ds3, p3, q3, rfl, rfl, rfl, h3, r3⟩ := trodAll_cons r2
  obtain ⟨v4, vs4, d4, ds4, p4, q4, rfl, rfl, rfl, h4, r4⟩ := trodAll_cons r3
  obtain ⟨v5, vs5, d5, ds5, p5, q5, rfl, rfl, rfl, h5, r5⟩ := trodAll_cons r4
  obtain ⟨rfl, rfl, rfl⟩ := trodAll_nil r5
  obtain rfl : args = #[v0, v1, v2, v3, v4, v5] := by cases args; simp_all
  obtain ⟨x_C, x_CA, x_cc, x_R, x_RA, x_rc, x_F, x_FA, x_fc, rfl, h_xC, h_xR, h_xF, l_xC, l_xR, l_xF, w_xC, w_xR, w_xF⟩ := open_numbers (hval 0 25 v0 rfl rfl) h0
  obtain ⟨ask0, ask1, ask2, ask3, rfl, b_ask0, b_ask1, b_ask2, b_ask3⟩ := open_int4 Try.underlying26 Try.underlying3 (by kernel_rfl) (by kernel_rfl) (hval 1 26 v1 rfl rfl) h1
  obtain ⟨more_C, more_CA, more_cc, more_R, more_RA, more_rc, more_F, more_FA, more_fc, rfl, h_moreC, h_moreR, h_moreF, l_moreC, l_moreR, l_moreF, w_moreC, w_moreR, w_moreF⟩ := open_numbers (hval 2 25 v2 rfl rfl) h2
  obtain ⟨how, rfl, rfl, rfl, w_how⟩ := open_int Try.underlying3 (hval 3 3 v3 rfl rfl) h3
  have b_how := bounds_i64 w_how
  obtain ⟨nn, rfl, rfl, rfl, w_nn⟩ := open_int Try.underlying3 (hval 4 3 v4 rfl rfl) h4
  have b_nn := bounds_i64 w_nn
  obtain ⟨att, rfl, rfl, rfl, w_att⟩ := open_int Try.underlying3 (hval 5 3 v5 rfl rfl) h5
  have b_att := bounds_i64 w_att
  have walk : Calls Try.prog 4 #[bkA x_CA x_C.length x_cc x_RA x_R.length x_rc x_FA x_F.length x_fc, .agg #[.int .i64 ask0, .int .i64 ask1, .int .i64 ask2, .int .i64 ask3], bkA more_CA more_C.length more_cc more_RA more_R.length more_rc more_FA more_F.length more_fc, .int .i64 how, .int .i64 nn, .int .i64 att] W fun e w' => e = .returned (.bool true) ∧ Below W.heap.size W w' := by
    exact past_walk sane_any x_C x_CA x_cc x_R x_RA x_rc x_F x_FA x_fc ask0 ask1 ask2 ask3 more_C more_CA more_cc more_R more_RA more_rc more_F more_FA more_fc how nn att h_xC h_xR h_xF l_xC l_xR l_xF b_ask0 b_ask1 b_ask2 b_ask3 h_moreC h_moreR h_moreF l_moreC l_moreR l_moreF b_how b_nn b_att W w_xC w_xR w_xF w_moreC w_moreR w_moreF
  refine walk.mono fun e W' ⟨he, bel⟩ => ?_
  subst he
  exact ⟨_, rfl, _, _, _, [], _, [], hW', trodAll_mk1 (shut_bool Try.underlying4 _), trodAll_below laidOut kA bel hlt (of_decide_eq_true (by kernel_rfl)), rfl, bel.frame _, fun h => by cases h⟩

noncomputable def laidWorld (os : Os) : World := Frame.laidWorld os
theorem laid_met (os : Os) : laidMet Try.prog Rows.statutePastRow.laid ((laidWorld os).forCall (fun _ _ => 0) ⟨#[], #[(.agg #[.slice none 0 0, .slice none 0 0, .slice none 0 0] : Value), (.agg #[.int .i64 0, .int .i64 0, .int .i64 0, .int .i64 0] : Value), (.agg #[.slice none 0 0, .slice none 0 0, .slice none 0 0] : Value), (.int .i64 0 : Value), (.int .i64 0 : Value), (.int .i64 0 : Value)], []⟩).memory := laidMet_of_run' 40 (by kernel_rfl) (by kernel_rfl)
theorem reads (os : Os) {H : Type} (enc : TypeId × Value → H) : ∃ places, DataW.whole enc Try.prog ((laidWorld os).forCall (fun _ _ => 0) ⟨#[], #[(.agg #[.slice none 0 0, .slice none 0 0, .slice none 0 0] : Value), (.agg #[.int .i64 0, .int .i64 0, .int .i64 0, .int .i64 0] : Value), (.agg #[.slice none 0 0, .slice none 0 0, .slice none 0 0] : Value), (.int .i64 0 : Value), (.int .i64 0 : Value), (.int .i64 0 : Value)], []⟩).memory Try.f4.params.toList Rows.statutePastSpec.vars false (#[(.agg #[.slice none 0 0, .slice none 0 0, .slice none 0 0] : Value), (.agg #[.int .i64 0, .int .i64 0, .int .i64 0, .int .i64 0] : Value), (.agg #[.slice none 0 0, .slice none 0 0, .slice none 0 0] : Value), (.int .i64 0 : Value), (.int .i64 0 : Value), (.int .i64 0 : Value)] : Array Value).toList 8 = some ([.agg [.nil, .nil, .nil], .agg [.lit (.int .i64 0), .lit (.int .i64 0), .lit (.int .i64 0), .lit (.int .i64 0)], .agg [.nil, .nil, .nil], .lit (.int .i64 0), .lit (.int .i64 0), .lit (.int .i64 0)], [], places) := ⟨[], by kernel_rfl⟩
set_option maxRecDepth 100000 in
theorem lifted (os : Os) (started : os.Started) (H : Type) (enc : TypeId × Value → H) (F : Stop.Interp) :
    ReturnsInHanded {} Try.checked os 4 .any ((OpenSpec.ofChange Rows.statutePastSpec).preRow enc Try.prog Try.f4 Rows.statutePastRow.domain false Rows.statutePastRow.laid) (((OpenSpec.ofChange Rows.statutePastSpec).at F).post enc Try.prog Try.f4 false true false false) := by
  obtain ⟨places, hx⟩ := reads os enc
  refine returnsInHanded_of_row (C := Try.checked) (s := (OpenSpec.ofChange Rows.statutePastSpec)) own started (by kernel_rfl) Try.func4
    (witness_row_at (enc := enc) (C := Try.checked) false (laidWorld os) #[(.agg #[.slice none 0 0, .slice none 0 0, .slice none 0 0] : Value), (.agg #[.int .i64 0, .int .i64 0, .int .i64 0, .int .i64 0] : Value), (.agg #[.slice none 0 0, .slice none 0 0, .slice none 0 0] : Value), (.int .i64 0 : Value), (.int .i64 0 : Value), (.int .i64 0 : Value)] rfl (by kernel_rfl) (by kernel_rfl) (by kernel_rfl)
      (OpenSpec.preRow_of_cond 8 hx (by kernel_rfl) (fun k hk => by cases hk) (by kernel_rfl) (laid_met os))) ?_
  intro W base args ds gs before hval hW _ hcond _ hL _ _
  exact contract H enc W base args ds gs before hval hW
theorem said : Rows.StatutePastSaid :=
  OpenClaim.holds_of_cond 4 Try.f4 rfl rfl rfl rfl rfl rfl rfl ⟨rfl, rfl, rfl, rfl, rfl⟩ rfl rfl rfl rfl rfl (by kernel_rfl) Try.func4 (by kernel_rfl)
    (of_decide_eq_true (by kernel_rfl)) (by unfold Func.isWrapper; first | (rw [if_pos (by decide +kernel)]; kernel_rfl) | (rw [if_neg (by decide +kernel)]; exact ⟨rfl, rfl⟩))
    (fun os started H enc _ F => by rw [OpenClaim.pre_eq_preRow]; exact lifted os started H enc F)
end Go.Proofs.Ytddeegfdbnmemaa.pStatutePast
