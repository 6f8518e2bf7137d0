/- StatuteGrows: for every input the law returns true, and each argument reads afterwards as it read before (the first form). Conditions: none of mine; the row's own cells. -/
import Derived.Test.YtiglkecmamnphaaFrame
import Derived.Test.YtiglkecmamnphaaGro
import Derived.Test.YtiglkecmamnphaaSn
namespace Go.Proofs.Ytiglkecmamnphaa.pStatuteGrows
open Go.ChangeShapes Go.WideShapes Go.ChangeAt Go.RowKit
open Go.ChangeMaps (open_string shut_string)
set_option linter.unusedVariables false
set_option maxRecDepth 100000 in
theorem contract (H : Type) (enc : TypeId × Value → H) (W : World) (base : Nat) (args : Array Value) (ds gs : List (DataW H)) (before : List MemPlace)
    (hval : ∀ (j : Nat) t v, Try.f8.params[j]? = some t → args[j]? = some v → Value.okWide Try.prog W .any base t v)
    (hW : DataW.Whole enc Try.prog Try.f8.params.toList Rows.statuteGrowsSpec.vars false W args.toList ds gs before)
    : Calls Try.prog 8 args W fun e W' => ∃ v, e = .returned v ∧ Rows.statuteGrowsSpec.post enc Try.prog Try.f8 false true false false W args v W' := by
  have hW' := hW
  obtain ⟨p, q, hA0, hV, rfl, hfz, hnd⟩ := hW
  have hA : DataW.TrodAll enc Try.prog W 0 (fun _ => true) true Try.f8.params.toList args.toList ds p := hA0
  rw [Try.params8] at hA hval
  have kA := hA
  obtain ⟨rfl, rfl⟩ := trodVars_none hV
  have hlt : ∀ x ∈ p, x.block < W.heap.size := fun x hx => by simpa using hW'.lt x (by simpa using hx)
  obtain ⟨v0, vs0, d0, ds0, p0, q0, hargs, rfl, rfl, h0, r0⟩ := trodAll_cons hA
  obtain ⟨v1, vs1, d1, ds1, p1, q1, rfl, rfl, rfl, h1, r1⟩ := trodAll_cons r0
  obtain ⟨v2, vs2, d2, ds2, p2, q2, rfl, rfl, rfl, h2, r2⟩ := trodAll_cons r1
  obtain ⟨v3, vs3, d3, ds3, p3, q3, rfl, rfl, rfl, h3, r3⟩ := trodAll_cons r2
  obtain ⟨rfl, rfl, rfl⟩ := trodAll_nil r3
  obtain rfl : args = #[v0, v1, v2, v3] := by cases args; simp_all
  obtain ⟨x_C, x_CA, x_cc, x_R, x_RA, x_rc, x_F, x_FA, x_fc, rfl, h_xC, h_xR, h_xF, l_xC, l_xR, l_xF, w_xC, w_xR, w_xF⟩ := open_numbers (hval 0 25 v0 rfl rfl) h0
  obtain ⟨more_C, more_CA, more_cc, more_R, more_RA, more_rc, more_F, more_FA, more_fc, rfl, h_moreC, h_moreR, h_moreF, l_moreC, l_moreR, l_moreF, w_moreC, w_moreR, w_moreF⟩ := open_numbers (hval 1 25 v1 rfl rfl) h1
  obtain ⟨ask0, ask1, ask2, ask3, rfl, b_ask0, b_ask1, b_ask2, b_ask3⟩ := open_int4 Try.underlying26 Try.underlying3 (by kernel_rfl) (by kernel_rfl) (hval 2 26 v2 rfl rfl) h2
  obtain ⟨other, rfl, rfl, rfl, w_other⟩ := open_int Try.underlying3 (hval 3 3 v3 rfl rfl) h3
  have b_other := bounds_i64 w_other
  have walk : Calls Try.prog 8 #[bkA x_CA x_C.length x_cc x_RA x_R.length x_rc x_FA x_F.length x_fc, bkA more_CA more_C.length more_cc more_RA more_R.length more_rc more_FA more_F.length more_fc, .agg #[.int .i64 ask0, .int .i64 ask1, .int .i64 ask2, .int .i64 ask3], .int .i64 other] W fun e w' => e = .returned (.bool true) ∧ Below W.heap.size W w' := by
    exact grows_walk sane_any x_C x_CA x_cc x_R x_RA x_rc x_F x_FA x_fc ask0 ask1 ask2 ask3 more_C more_CA more_cc more_R more_RA more_rc more_F more_FA more_fc other h_xC h_xR h_xF l_xC l_xR l_xF b_ask0 b_ask1 b_ask2 b_ask3 h_moreC h_moreR h_moreF l_moreC l_moreR l_moreF b_other W w_xC w_xR w_xF w_moreC w_moreR w_moreF
  refine walk.mono fun e W' ⟨he, bel⟩ => ?_
  subst he
  exact ⟨_, rfl, _, _, _, [], _, [], hW', trodAll_mk1 (shut_bool Try.underlying4 _), trodAll_below laidOut kA bel hlt (of_decide_eq_true (by kernel_rfl)), rfl, bel.frame _, fun h => by cases h⟩

noncomputable def laidWorld (os : Os) : World := Frame.laidWorld os
theorem laid_met (os : Os) : laidMet Try.prog Rows.statuteGrowsRow.laid ((laidWorld os).forCall (fun _ _ => 0) ⟨#[], #[(.agg #[.slice none 0 0, .slice none 0 0, .slice none 0 0] : Value), (.agg #[.slice none 0 0, .slice none 0 0, .slice none 0 0] : Value), (.agg #[.int .i64 0, .int .i64 0, .int .i64 0, .int .i64 0] : Value), (.int .i64 0 : Value)], []⟩).memory := laidMet_of_run' 40 (by kernel_rfl) (by kernel_rfl)
theorem reads (os : Os) {H : Type} (enc : TypeId × Value → H) : ∃ places, DataW.whole enc Try.prog ((laidWorld os).forCall (fun _ _ => 0) ⟨#[], #[(.agg #[.slice none 0 0, .slice none 0 0, .slice none 0 0] : Value), (.agg #[.slice none 0 0, .slice none 0 0, .slice none 0 0] : Value), (.agg #[.int .i64 0, .int .i64 0, .int .i64 0, .int .i64 0] : Value), (.int .i64 0 : Value)], []⟩).memory Try.f8.params.toList Rows.statuteGrowsSpec.vars false (#[(.agg #[.slice none 0 0, .slice none 0 0, .slice none 0 0] : Value), (.agg #[.slice none 0 0, .slice none 0 0, .slice none 0 0] : Value), (.agg #[.int .i64 0, .int .i64 0, .int .i64 0, .int .i64 0] : Value), (.int .i64 0 : Value)] : Array Value).toList 8 = some ([.agg [.nil, .nil, .nil], .agg [.nil, .nil, .nil], .agg [.lit (.int .i64 0), .lit (.int .i64 0), .lit (.int .i64 0), .lit (.int .i64 0)], .lit (.int .i64 0)], [], places) := ⟨[], by kernel_rfl⟩
set_option maxRecDepth 100000 in
theorem lifted (os : Os) (started : os.Started) (H : Type) (enc : TypeId × Value → H) (F : Stop.Interp) :
    ReturnsInHanded {} Try.checked os 8 .any ((OpenSpec.ofChange Rows.statuteGrowsSpec).preRow enc Try.prog Try.f8 Rows.statuteGrowsRow.domain false Rows.statuteGrowsRow.laid) (((OpenSpec.ofChange Rows.statuteGrowsSpec).at F).post enc Try.prog Try.f8 false true false false) := by
  obtain ⟨places, hx⟩ := reads os enc
  refine returnsInHanded_of_row (C := Try.checked) (s := (OpenSpec.ofChange Rows.statuteGrowsSpec)) own started (by kernel_rfl) Try.func8
    (witness_row_at (enc := enc) (C := Try.checked) false (laidWorld os) #[(.agg #[.slice none 0 0, .slice none 0 0, .slice none 0 0] : Value), (.agg #[.slice none 0 0, .slice none 0 0, .slice none 0 0] : Value), (.agg #[.int .i64 0, .int .i64 0, .int .i64 0, .int .i64 0] : Value), (.int .i64 0 : Value)] rfl (by kernel_rfl) (by kernel_rfl) (by kernel_rfl)
      (OpenSpec.preRow_of_cond 8 hx (by kernel_rfl) (fun k hk => by cases hk) (by kernel_rfl) (laid_met os))) ?_
  intro W base args ds gs before hval hW _ hcond _ hL _ _
  exact contract H enc W base args ds gs before hval hW
theorem said : Rows.StatuteGrowsSaid :=
  OpenClaim.holds_of_cond 8 Try.f8 rfl rfl rfl rfl rfl rfl rfl ⟨rfl, rfl, rfl, rfl, rfl⟩ rfl rfl rfl rfl rfl (by kernel_rfl) Try.func8 (by kernel_rfl)
    (of_decide_eq_true (by kernel_rfl)) (by unfold Func.isWrapper; first | (rw [if_pos (by decide +kernel)]; kernel_rfl) | (rw [if_neg (by decide +kernel)]; exact ⟨rfl, rfl⟩))
    (fun os started H enc _ F => by rw [OpenClaim.pre_eq_preRow]; exact lifted os started H enc F)
end Go.Proofs.Ytiglkecmamnphaa.pStatuteGrows
