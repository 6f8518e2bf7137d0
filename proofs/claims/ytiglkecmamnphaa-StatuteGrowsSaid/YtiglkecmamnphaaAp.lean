/- Applies. -/
import Derived.Test.YtiglkecmamnphaaDe
namespace Go.Proofs.Ytiglkecmamnphaa
open Go.RowKit Go.Sort Go.Lib Go.Maps

abbrev twoR (a b : Value) (e : Int) : Value := .tuple #[a, b, .int .i64 e]

set_option maxRecDepth 100000 in
set_option maxHeartbeats 8000000 in
theorem applies_no (b : Bk) (q : Qn) (cv rv fv : Value) (w : World) (hw : BkV w w.heap.size cv rv fv b) (hI : BkI b) (hno : (validB b && asksB q) = false) :
    Calls Try.prog 22 #[.agg #[cv, rv, fv], .agg (qnC q)] w fun e w' => e = .returned (twoR nilS nilS 80) ∧ Below w.heap.size w w' := by
  obtain ⟨W1, hW1⟩ : ∃ W1, W1 = (w.alloc (.cells #[cv, rv, fv] 34)).alloc (.cells (qnC q) 37) := ⟨_, rfl⟩
  have hb1 : Below w.heap.size w W1 := by rw [hW1]; exact keep_alloc (below_alloc _ _) _
  have r1 : Row W1 w.heap.size 34 #[cv, rv, fv] := by rw [hW1]; exact (Row.made w _ _).later _
  have r2 : Row W1 (w.heap.size + 1) 37 (qnC q) := by rw [hW1]; exact Row.made_at _ _ _ (by simp)
  have hlk := look_no b q cv rv fv W1 (hw.deep hb1) hI hno
  have HL := Lib.hid hlk; have HB := Lib.hid hb1
  obtain ⟨k0, k1, k2, _, _, _⟩ := r1.three
  unfold qnC at r2 hW1 HL
  obtain ⟨m0, m1, m2, m3⟩ := box4 r2
  clear hlk hb1 hno hw r1 r2 hI
  obtain ⟨th, sy, tm, kn⟩ := q
  dsimp only at *
  go_enter Try.func22, Try.ntmps22
  go_upto_region 1 with (fail)
  rw [← hW1]
  clear hW1
  go_wp2_with (first | (go_at_call 30; (with_reducible refine HL.out.mono ?_); rintro e w2 ⟨rfl, b2⟩) | fail)
  go_ret3
  exact ⟨rfl, keep_alloc (below_step HB.out b2) _⟩

set_option maxRecDepth 100000 in
set_option maxHeartbeats 8000000 in
theorem applies_yes (b : Bk) (q : Qn) (cv rv fv : Value) (w : World) (hw : BkV w w.heap.size cv rv fv b) (hI : BkI b) (hv : validB b = true) (hq : asksB q = true) :
    Calls Try.prog 22 #[.agg #[cv, rv, fv], .agg (qnC q)] w fun e w' => ∃ av bv, e = .returned (twoR av bv 0) ∧ IntsV w' w'.heap.size av (aF b q) ∧ IntsV w' w'.heap.size bv (aC b q) ∧ Below w.heap.size w w' := by
  obtain ⟨W1, hW1⟩ : ∃ W1, W1 = (w.alloc (.cells #[cv, rv, fv] 34)).alloc (.cells (qnC q) 37) := ⟨_, rfl⟩
  have hb1 : Below w.heap.size w W1 := by rw [hW1]; exact keep_alloc (below_alloc _ _) _
  have r1 : Row W1 w.heap.size 34 #[cv, rv, fv] := by rw [hW1]; exact (Row.made w _ _).later _
  have r2 : Row W1 (w.heap.size + 1) 37 (qnC q) := by rw [hW1]; exact Row.made_at _ _ _ (by simp)
  have hlk := look_yes b q cv rv fv W1 (hw.deep hb1) hI hv hq
  have HL := Lib.hid hlk; have HB := Lib.hid hb1
  obtain ⟨k0, k1, k2, _, _, _⟩ := r1.three
  obtain ⟨CA, cl, cc, rfl⟩ : ∃ A n c, cv = .slice A n c := by obtain ⟨A, c, h, _⟩ := hw.1; exact ⟨_, _, _, h⟩
  obtain ⟨RA, rl, rc, rfl⟩ : ∃ A n c, rv = .slice A n c := by obtain ⟨A, c, h, _⟩ := hw.2.1; exact ⟨_, _, _, h⟩
  obtain ⟨FA, fl, fc, rfl⟩ : ∃ A n c, fv = .slice A n c := by obtain ⟨A, c, h, _⟩ := hw.2.2; exact ⟨_, _, _, h⟩
  unfold qnC at r2 hW1 HL
  obtain ⟨m0, m1, m2, m3⟩ := box4 r2
  clear hlk hb1 hw r1 r2 hv hq hI
  obtain ⟨th, sy, tm, kn⟩ := q
  dsimp only at *
  go_enter Try.func22, Try.ntmps22
  go_upto_region 1 with (fail)
  rw [← hW1]
  clear hW1
  go_upto_region 4 with (first | (go_at_call 30; (with_reducible refine HL.out.mono ?_); rintro e w2 ⟨av, bv, rfl, ha, hc, b2⟩; obtain ⟨aA, ac, rfl, _⟩ := id ha; obtain ⟨bA, bc, rfl, _⟩ := id hc; have A2 := Lib.hid ha; have C2 := Lib.hid hc; have B2 := Lib.hid b2; clear ha hc b2) | fail)
  obtain ⟨la, hla⟩ : ∃ la, la = (aF b ⟨th, sy, tm, kn⟩).length := ⟨_, rfl⟩
  obtain ⟨lb, hlb⟩ : ∃ lb, lb = (aC b ⟨th, sy, tm, kn⟩).length := ⟨_, rfl⟩
  rw [← hla] at A2 ⊢
  rw [← hlb] at C2 ⊢
  obtain ⟨W3, hW3⟩ : ∃ W3, W3 = w2.alloc (.cells #[.slice CA cl cc, .slice RA rl rc, .slice FA fl fc, .slice aA la ac, .slice bA lb bc] 79) := ⟨_, rfl⟩
  have b3 : Below w2.heap.size w2 W3 := by rw [hW3]; exact below_alloc _ _
  obtain ⟨n0, n1, n2, n3, n4⟩ := box5 (by rw [hW3]; exact Row.made w2 _ _ : Row W3 w2.heap.size 79 _)
  have BW := Lib.hid (below_step (below_step HB.out B2.out) b3)
  have A3 := Lib.hid (A2.out.deep b3); have C3 := Lib.hid (C2.out.deep b3)
  rw [← hW3]
  clear hW3 b3 A2 C2 B2 HB HL k0 k1 k2 m0 m1 m2 m3 hla hlb
  have N3 := cell_regrown n3; have N4 := cell_regrown n4
  clear n0 n1 n2 n3 n4
  refine wp_region_quiet_below (by kernel_rfl) (by kernel_rfl) ?_
  go_big_quiet_step (first | (fail) | fail)
  repeat (go_big_quiet_step (first | (fail) | fail))
  refine wpQuiet_nil ?_; intro _ hw'; obtain ⟨⟨dq, osq⟩, hw''⟩ := hw'; subst hw''
  have B4 := below_regrown W3 dq osq
  go_wp2_with fail
  go_ret3
  exact ⟨_, _, rfl, A3.out.deep B4, C3.out.deep B4, below_step BW.out B4⟩
end Go.Proofs.Ytiglkecmamnphaa
