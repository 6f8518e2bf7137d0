/- saying, giving. -/
import Derived.Test.YtiglkecmamnphaaVw
namespace Go.Proofs.Ytiglkecmamnphaa
open Go.RowKit Go.Sort Go.Lib

/-- The five cells of a view. -/
def VwV (w : World) (B : Nat) (cv rv fv av bv : Value) (b : Bk) (q : Qn) : Prop := BkV w B cv rv fv b ∧ IntsV w B av (aF b q) ∧ IntsV w B bv (aC b q)
theorem VwV.deep {w W : World} {cv rv fv av bv : Value} {b : Bk} {q : Qn} (h : VwV w w.heap.size cv rv fv av bv b q) (hb : Below w.heap.size w W) : VwV W W.heap.size cv rv fv av bv b q := ⟨h.1.deep hb, h.2.1.deep hb, h.2.2.deep hb⟩

set_option maxRecDepth 100000 in
set_option maxHeartbeats 8000000 in
theorem saying1_any (b : Bk) (n : Int) (cv rv fv av bv : Value) (W : World) (hw : BkV W W.heap.size cv rv fv b) (gv gn : Nat) (hv : Row W gv 79 #[cv, rv, fv, av, bv]) (hn : W.cell? ⟨gn, 0, none⟩ = some (.int .i64 n)) (i : Nat) (hi : i < b.fct.length) :
    Calls Try.prog 74 #[.int .i64 (i : Int), .pointer (some ⟨gv, 0, none⟩), .pointer (some ⟨gn, 0, none⟩)] W fun e w' => e = .returned (.bool (decide ((fctOf b (i : Int)).says = n))) ∧ Below W.heap.size W w' := by
  obtain ⟨x, hx⟩ := at_lt hi
  have hof : fctOf b (i : Int) = x := by unfold fctOf; rw [Int.toNat_natCast, hx]; rfl
  rw [hof]
  obtain ⟨FA, fc, rfl, h9, hg⟩ := hw.2.2.fct
  obtain ⟨bb, o, hA, hbb, _, e1, _⟩ := hg i x hx
  subst hA
  obtain ⟨k0, k1, k2, k3, k4⟩ := box5 hv
  have d1 : (x.says == n) = decide (x.says = n) := by by_cases h : x.says = n <;> simp [h]
  generalize decide (x.says = n) = d at *
  generalize x.says = xs at *
  obtain ⟨L, hL⟩ : ∃ L, L = b.fct.length := ⟨_, rfl⟩
  rw [← hL] at hi h9 k2
  replace h9 : L ≤ 9223372036854775807 := h9
  have hi' : (i : Int) < (L : Int) := by omega
  have K2 := cell_regrown k2; have KN := cell_regrown hn; have E := cell_regrown e1
  clear hw hv hn e1 hL hx hof k0 k1 k2 k3 k4
  go_enter Try.func74, Try.ntmps74
  go_upto_region 1 with (fail)
  refine wp_region_quiet_below (by kernel_rfl) (by kernel_rfl) ?_
  repeat (go_big_quiet_step (first | (fail) | fail))
  refine wpQuiet_nil ?_; intro _ hw'; obtain ⟨⟨dq, osq⟩, hw''⟩ := hw'; subst hw''
  go_wp2
  go_ret
  exact ⟨rfl, below_regrown _ _ _⟩

set_option maxRecDepth 100000 in
set_option maxHeartbeats 8000000 in
theorem giving1_any (b : Bk) (n : Int) (cv rv fv av bv : Value) (W : World) (hw : BkV W W.heap.size cv rv fv b) (gv gn : Nat) (hv : Row W gv 79 #[cv, rv, fv, av, bv]) (hn : W.cell? ⟨gn, 0, none⟩ = some (.int .i64 n)) (i : Nat) (hi : i < b.cls.length) :
    Calls Try.prog 53 #[.int .i64 (i : Int), .pointer (some ⟨gv, 0, none⟩), .pointer (some ⟨gn, 0, none⟩)] W fun e w' => e = .returned (.bool (decide ((clsOf b (i : Int)).gives = n))) ∧ Below W.heap.size W w' := by
  obtain ⟨x, hx⟩ := at_lt hi
  have hof : clsOf b (i : Int) = x := by unfold clsOf; rw [Int.toNat_natCast, hx]; rfl
  rw [hof]
  obtain ⟨CA, cc, rfl, h9, _⟩ := hw.1
  obtain ⟨bb, o, NA, BA, nc, bc, hA, hbb, _, _, _, _, _, _, _, e1⟩ := hw.1.get hx
  subst hA
  obtain ⟨k0, k1, k2, k3, k4⟩ := box5 hv
  have d1 : (x.gives == n) = decide (x.gives = n) := by by_cases h : x.gives = n <;> simp [h]
  generalize decide (x.gives = n) = d at *
  generalize x.gives = xs at *
  obtain ⟨L, hL⟩ : ∃ L, L = b.cls.length := ⟨_, rfl⟩
  rw [← hL] at hi h9 k0
  replace h9 : L ≤ 9223372036854775807 := h9
  have hi' : (i : Int) < (L : Int) := by omega
  have K0 := cell_regrown k0; have KN := cell_regrown hn; have E := cell_regrown e1
  clear hw hv hn e1 hL hx hof k0 k1 k2 k3 k4
  go_enter Try.func53, Try.ntmps53
  go_upto_region 1 with (fail)
  refine wp_region_quiet_below (by kernel_rfl) (by kernel_rfl) ?_
  repeat (go_big_quiet_step (first | (fail) | fail))
  refine wpQuiet_nil ?_; intro _ hw'; obtain ⟨⟨dq, osq⟩, hw''⟩ := hw'; subst hw''
  go_wp2
  go_ret
  exact ⟨rfl, below_regrown _ _ _⟩

set_option maxRecDepth 100000 in
set_option maxHeartbeats 8000000 in
theorem saying_any (b : Bk) (q : Qn) (n : Int) (cv rv fv av bv : Value) (w : World) (hw : VwV w w.heap.size cv rv fv av bv b q) (h20 : b.fct.length ≤ 20) :
    Calls Try.prog 57 #[.agg #[cv, rv, fv, av, bv], .int .i64 n] w fun e w' => ∃ v, e = .returned v ∧ w'.ownsRow w.heap.size 3 1 v (sF b q n).length (iC (sF b q n)) ∧ Below w.heap.size w w' := by
  obtain ⟨IA, ic, rfl, hi9, hI⟩ := hw.2.1
  obtain ⟨W1, hW1⟩ : ∃ W1, W1 = (w.alloc (.cells #[cv, rv, fv, .slice IA (aF b q).length ic, bv] 79)).alloc (.cells #[.int .i64 n] 3) := ⟨_, rfl⟩
  have hb1 : Below w.heap.size w W1 := by rw [hW1]; exact keep_alloc (below_alloc _ _) _
  have r1 : Row W1 w.heap.size 79 #[cv, rv, fv, .slice IA (aF b q).length ic, bv] := by rw [hW1]; exact (Row.made w _ _).later _
  have r2 : Row W1 (w.heap.size + 1) 3 #[.int .i64 n] := by rw [hW1]; exact Row.made_at _ _ _ (by simp)
  have hp : PredIs W1 (.func (.func 74) #[] #[.pointer (some ⟨w.heap.size, 0, none⟩), .pointer (some ⟨w.heap.size + 1, 0, none⟩)]) (aF b q) (fun i => decide ((fctOf b i).says = n)) :=
    ⟨_, _, rfl, enters_of Try.func74 (by kernel_rfl) rfl, fun W hW x hx => by
      obtain ⟨⟨hx0, hx1⟩, _⟩ := mem_aF.1 hx
      obtain ⟨i, rfl⟩ := Int.eq_ofNat_of_zero_le hx0
      exact saying1_any b n _ _ _ _ _ W ((hw.1.deep hb1).deep hW) w.heap.size (w.heap.size + 1) (Row.step r1 hW) ((Row.step r2 hW).at rfl) i (by simpa using hx1)⟩
  have hc := which_any (aF b q) IA ic _ _ (up_aF b q) (Nat.le_trans (len_aF b q) (by omega)) W1 (hI.deep hb1) hp
  have e1 : (aF b q).filter (fun i => decide ((fctOf b i).says = n)) = sF b q n := rfl
  rw [e1] at hc
  obtain ⟨k0, k1, k2, k3, k4⟩ := box5 r1
  generalize sF b q n = R at *
  generalize (aF b q).length = L at *
  have HC := Lib.hid hc; have HB := Lib.hid hb1
  clear hc hb1 hp r1 r2 hw hI e1
  go_enter Try.func57, Try.ntmps57
  go_upto_region 1 with (fail)
  rw [← hW1]
  clear hW1
  go_wp2_with (first | (go_at_call 52; (with_reducible refine HC.out.mono ?_); rintro e w2 ⟨v, rfl, ho, hb⟩; have HO := Lib.hid ho; have HB2 := Lib.hid hb; clear ho hb) | fail)
  go_ret
  exact ⟨v, rfl, own_less HO.out HB.out.size, below_step HB.out HB2.out⟩

set_option maxRecDepth 100000 in
set_option maxHeartbeats 8000000 in
theorem giving_any (b : Bk) (q : Qn) (n : Int) (cv rv fv av bv : Value) (w : World) (hw : VwV w w.heap.size cv rv fv av bv b q) (h20 : b.cls.length ≤ 20) :
    Calls Try.prog 35 #[.agg #[cv, rv, fv, av, bv], .int .i64 n] w fun e w' => ∃ v, e = .returned v ∧ w'.ownsRow w.heap.size 3 1 v (sC b q n).length (iC (sC b q n)) ∧ Below w.heap.size w w' := by
  obtain ⟨IA, ic, rfl, hi9, hI⟩ := hw.2.2
  obtain ⟨W1, hW1⟩ : ∃ W1, W1 = (w.alloc (.cells #[cv, rv, fv, av, .slice IA (aC b q).length ic] 79)).alloc (.cells #[.int .i64 n] 3) := ⟨_, rfl⟩
  have hb1 : Below w.heap.size w W1 := by rw [hW1]; exact keep_alloc (below_alloc _ _) _
  have r1 : Row W1 w.heap.size 79 #[cv, rv, fv, av, .slice IA (aC b q).length ic] := by rw [hW1]; exact (Row.made w _ _).later _
  have r2 : Row W1 (w.heap.size + 1) 3 #[.int .i64 n] := by rw [hW1]; exact Row.made_at _ _ _ (by simp)
  have hp : PredIs W1 (.func (.func 53) #[] #[.pointer (some ⟨w.heap.size, 0, none⟩), .pointer (some ⟨w.heap.size + 1, 0, none⟩)]) (aC b q) (fun i => decide ((clsOf b i).gives = n)) :=
    ⟨_, _, rfl, enters_of Try.func53 (by kernel_rfl) rfl, fun W hW x hx => by
      obtain ⟨⟨hx0, hx1⟩, _⟩ := mem_aC.1 hx
      obtain ⟨i, rfl⟩ := Int.eq_ofNat_of_zero_le hx0
      exact giving1_any b n _ _ _ _ _ W ((hw.1.deep hb1).deep hW) w.heap.size (w.heap.size + 1) (Row.step r1 hW) ((Row.step r2 hW).at rfl) i (by simpa using hx1)⟩
  have hc := which_any (aC b q) IA ic _ _ (up_aC b q) (Nat.le_trans (len_aC b q) (by omega)) W1 (hI.deep hb1) hp
  have e1 : (aC b q).filter (fun i => decide ((clsOf b i).gives = n)) = sC b q n := rfl
  rw [e1] at hc
  obtain ⟨k0, k1, k2, k3, k4⟩ := box5 r1
  generalize sC b q n = R at *
  generalize (aC b q).length = L at *
  have HC := Lib.hid hc; have HB := Lib.hid hb1
  clear hc hb1 hp r1 r2 hw hI e1
  go_enter Try.func35, Try.ntmps35
  go_upto_region 1 with (fail)
  rw [← hW1]
  clear hW1
  go_wp2_with (first | (go_at_call 52; (with_reducible refine HC.out.mono ?_); rintro e w2 ⟨v, rfl, ho, hb⟩; have HO := Lib.hid ho; have HB2 := Lib.hid hb; clear ho hb) | fail)
  go_ret
  exact ⟨v, rfl, own_less HO.out HB.out.size, below_step HB.out HB2.out⟩

end Go.Proofs.Ytiglkecmamnphaa
