/- sane: the chapter's examples. -/
import Derived.Test.YtjhcdkllneeijaaAgr
import Derived.Test.YtjhcdkllneeijaaFind
import Derived.Laws.StructEq
namespace Go.Proofs.Ytjhcdkllneeijaa
open Go.RowKit

theorem eq_spell (a b c d : Int) (w : World) : (binOp .eql 32 (.agg #[.int .i64 a, .int .i64 b]) (.agg #[.int .i64 c, .int .i64 d])).run Try.prog w = .ok (.bool (decide (a = c) && decide (b = d))) w := by
  have u3 := Try.underlying3
  have a3 := Try.isAgg3
  have z3 := Try.sizeOf3
  have hS : Try.prog.underlying 32 = some (.struct (Try.prog.fieldsOf 32)) := by kernel_rfl
  have hp : Try.prog.stoodInHeld 32 = false := by kernel_rfl
  rw [run_eql_struct, show (10000 : Nat) = 9999 + 1 from rfl, run_equalIn_agg w 9999 32 _ _ hS hp]
  simp only [Program.fieldsOf, Try.underlying32]
  go_simp
  by_cases h1 : a = c <;> by_cases h2 : b = d <;> simp [h1, h2]

/-- The example's clock. -/
def exR : List Rd := [(1000, 2000, 2010)]
def exL : List (Int × Int) := [(0, 10), (5, 15), (8, 9), (12, 20)]
theorem ex_reads : readsS 100 exR 2005 = (994, 1006, 0) := by
  have a1 := (fst_iff (d := 100) (by decide) (by decide) exR 2005 (l := 994) (by decide)).2 (by decide)
  have a2 := mt (fst_iff (d := 100) (by decide) (by decide) exR 2005 (l := 993) (by decide)).1 (by decide)
  have a3 := (end_iff (d := 100) (by decide) (by decide) exR 2005 (l := 1006) (by decide)).2 (by decide)
  have a4 := mt (end_iff (d := 100) (by decide) (by decide) exR 2005 (l := 1007) (by decide)).1 (by decide)
  have e1 : fstN 100 exR 2005 = 994 := by omega
  have e2 : endN 100 exR 2005 = 1007 := by omega
  rw [readsS, e1, e2, if_pos ⟨by decide, by decide, by decide⟩]
  rfl
theorem ex_agr : Agr exL 8 9 3 := by
  have h : ∀ s : Int, (inN exL s : Int) = (if 0 ≤ s ∧ s < 10 then 1 else 0) + (if 5 ≤ s ∧ s < 15 then 1 else 0) + (if 8 ≤ s ∧ s < 9 then 1 else 0) + (if 12 ≤ s ∧ s < 20 then 1 else 0) := by
    intro s
    simp only [inN, exL, List.countP_cons, List.countP_nil, Bool.and_eq_true, decide_eq_true_eq]
    split <;> split <;> split <;> split <;> rfl
  refine .inr ⟨by decide, by decide, fun s => ?_, fun s hs => ?_, fun s h1 h2 => ?_, ?_⟩
  · rw [h]; split <;> split <;> split <;> split <;> omega
  · rw [h]; split <;> split <;> split <;> split <;> omega
  · rw [h]; split <;> split <;> split <;> split <;> omega
  · rw [h]; decide

/-- The example's clock stands: its row, its box. -/
def Lv (W : World) (g0 g1 : Nat) : Prop := Row W g1 24 #[.int .i64 100, .slice (some ⟨g0, 0, none⟩) 1 1] ∧ Row W g0 50 #[.int .i64 1000, .int .i64 2000, .int .i64 2010]
theorem Lv.step {W W' : World} {g0 g1 : Nat} (h : Lv W g0 g1) (b : Below W.heap.size W W') : Lv W' g0 g1 := ⟨Row.below h.1 b h.1.inside, Row.below h.2 b h.2.inside⟩
theorem Lv.rds {W : World} {g0 g1 : Nat} (h : Lv W g0 g1) : Rds W W.heap.size (some ⟨g0, 0, none⟩) exR :=
  .inr ⟨g0, 0, rfl, h.2.inside, fun i r hr => by
    match i, hr with
    | 0, hr =>
      cases hr
      exact ⟨h.2.at rfl, h.2.at rfl, h.2.at rfl⟩
    | i + 1, hr => simp [exR] at hr⟩
theorem Lv.eqs {W : World} {g0 g1 : Nat} (h : Lv W g0 g1) : W.cell? ⟨g1, 0, none⟩ = some (.int .i64 100) ∧ W.cell? ⟨g1, 1, none⟩ = some (.slice (some ⟨g0, 0, none⟩) 1 1) := ⟨h.1.at rfl, h.1.at rfl⟩
section
variable {W : World} {g0 g1 : Nat}
abbrev exV (g0 : Nat) : Value := .agg #[.int .i64 100, .slice (some ⟨g0, 0, none⟩) 1 1]
theorem l_at {l x y z : Int} (hv : atS 100 exR l = (x, y, z)) (h : Lv W g0 g1) : Calls Try.prog 20 #[exV g0, .int .i64 l] W fun e w' => e = .returned (.tuple #[.int .i64 x, .int .i64 y, .int .i64 z]) ∧ Below W.heap.size W w' := by
  have := at_any 100 exR (some ⟨g0, 0, none⟩) 1 l (by decide) W h.rds
  rw [hv] at this; exact this
theorem l_reads {l x y z : Int} (hv : readsS 100 exR l = (x, y, z)) (h : Lv W g0 g1) : Calls Try.prog 22 #[exV g0, .int .i64 l] W fun e w' => e = .returned (.tuple #[.int .i64 x, .int .i64 y, .int .i64 z]) ∧ Below W.heap.size W w' := by
  have := reads_any 100 exR (some ⟨g0, 0, none⟩) 1 l (by decide) W h.rds
  rw [hv] at this; exact this
theorem l_before {l t : Int} {b : Bool} (hv : beforeS 100 exR l t = b) (h : Lv W g0 g1) : Calls Try.prog 24 #[exV g0, .int .i64 l, .int .i64 t] W fun e w' => e = .returned (.bool b) ∧ Below W.heap.size W w' := by
  have := before_any 100 exR (some ⟨g0, 0, none⟩) 1 l t (by decide) W h.rds
  rw [hv] at this; exact this
theorem l_after {l t : Int} {b : Bool} (hv : afterS 100 exR l t = b) (h : Lv W g0 g1) : Calls Try.prog 26 #[exV g0, .int .i64 l, .int .i64 t] W fun e w' => e = .returned (.bool b) ∧ Below W.heap.size W w' := by
  have := after_any 100 exR (some ⟨g0, 0, none⟩) 1 l t (by decide) W h.rds
  rw [hv] at this; exact this
theorem l_valid (h : Lv W g0 g1) : Calls Try.prog 17 #[exV g0] W fun e w' => e = .returned (.bool true) ∧ Below W.heap.size W w' := by
  have := valid_any 100 exR (some ⟨g0, 0, none⟩) 1 (by decide) W h.rds
  rw [show validB 100 exR = true by decide] at this; exact this
end
theorem l_spread {d n x y : Int} (hv : spreadS d n = (x, y)) (W : World) : Calls Try.prog 11 #[.int .i64 d, .int .i64 n] W fun e w' => e = .returned (.tuple #[.int .i64 x, .int .i64 y]) ∧ w' = W := by
  have := spread_any d n W
  rw [hv] at this; exact this
theorem l_agree (g : Nat) (W : World) (h : Row W g 32 #[.int .i64 0, .int .i64 10, .int .i64 5, .int .i64 15, .int .i64 8, .int .i64 9, .int .i64 12, .int .i64 20]) :
    Calls Try.prog 13 #[.slice (some ⟨g, 0, none⟩) 4 4] W fun e w' => e = .returned (agrV 8 9 3) ∧ Below W.heap.size W w' := by
  refine (agree_any exL (by decide) (some ⟨g, 0, none⟩) 4 W (.inr ⟨g, 0, rfl, h.inside, fun i r hr => ?_⟩)).mono ?_
  · match i, hr with
    | 0, hr => cases hr; exact ⟨h.at rfl, h.at rfl⟩
    | 1, hr => cases hr; exact ⟨h.at rfl, h.at rfl⟩
    | 2, hr => cases hr; exact ⟨h.at rfl, h.at rfl⟩
    | 3, hr => cases hr; exact ⟨h.at rfl, h.at rfl⟩
    | i + 4, hr => simp [exL] at hr
  · rintro e w' ⟨⟨f, t, k, rfl, ha⟩, hb⟩
    obtain ⟨rfl, rfl, rfl⟩ := ha.one ex_agr
    exact ⟨rfl, hb⟩

set_option maxRecDepth 100000 in
set_option maxHeartbeats 16000000 in
theorem sane_any (w : World) : Calls Try.prog 10 #[] w fun e w' => e = .returned (.bool true) ∧ Below w.heap.size w w' := by
  have s1 : spreadS 0 7 = (7, 7) := by decide
  have s2 : spreadS 100 0 = (0, 1) := by decide
  have s3 : spreadS 100 110 = (100, 123) := by decide
  have s4 : atS 100 exR 1110 = (2100, 2133, 0) := by decide
  have s5 : atS 100 exR 890 = (1877, 1910, 0) := by decide
  have s6 : beforeS 100 exR 890 1911 = true := by decide
  have s7 : beforeS 100 exR 890 1910 = false := by decide
  have s8 : afterS 100 exR 1110 2099 = true := by decide
  have s9 : afterS 100 exR 1110 2100 = false := by decide
  have S1 := Lib.hid s1; have S2 := Lib.hid s2; have S3 := Lib.hid s3; have S4 := Lib.hid s4; have S5 := Lib.hid s5; have S6 := Lib.hid s6; have S7 := Lib.hid s7; have S8 := Lib.hid s8; have S9 := Lib.hid s9
  clear s1 s2 s3 s4 s5 s6 s7 s8 s9
  have es := fun (a b c d : Int) (W : World) => eq_spell a b c d W
  have lv0 : Lv ((w.alloc (.cells #[.int .i64 1000, .int .i64 2000, .int .i64 2010] 50)).alloc (.cells #[.int .i64 100, .slice (some ⟨w.heap.size, 0, none⟩) 1 1] 24)) w.heap.size (w.heap.size + 1) := ⟨Row.made_at _ _ _ (by simp), (Row.made _ _ _).later _⟩
  have b0 : Below w.heap.size w ((w.alloc (.cells #[.int .i64 1000, .int .i64 2000, .int .i64 2010] 50)).alloc (.cells #[.int .i64 100, .slice (some ⟨w.heap.size, 0, none⟩) 1 1] 24)) := keep_alloc (below_alloc _ _) _
  have V := Lib.hid lv0; have B := Lib.hid b0
  clear lv0 b0
  go_enter Try.func10, Try.ntmps10
  go_wp2_with (first
    | (go_at_call 11; (first | ((with_reducible refine (l_spread S1.out _).mono ?_); rintro e wx ⟨rfl, hwx⟩; have hwx := hwx.symm; subst hwx) | ((with_reducible refine (l_spread S2.out _).mono ?_); rintro e wx ⟨rfl, hwx⟩; have hwx := hwx.symm; subst hwx) | ((with_reducible refine (l_spread S3.out _).mono ?_); rintro e wx ⟨rfl, hwx⟩; have hwx := hwx.symm; subst hwx)))
    | (go_at_call 20; (first | ((with_reducible refine (l_at S4.out V.out).mono ?_); rintro e w4 ⟨rfl, b4⟩; have V4 := Lib.hid (V.out.step b4); have B4 := Lib.hid (below_step B.out b4); obtain ⟨k0, k1⟩ := V4.out.eqs; clear b4) | ((with_reducible refine (l_at S5.out V4.out).mono ?_); rintro e w5 ⟨rfl, b5⟩; have V5 := Lib.hid (V4.out.step b5); have B5 := Lib.hid (below_step B4.out b5); obtain ⟨m0, m1⟩ := V5.out.eqs; clear b5)))
    | (go_at_call 22; ((with_reducible refine (l_reads ex_reads V5.out).mono ?_); rintro e w6 ⟨rfl, b6⟩; have V6 := Lib.hid (V5.out.step b6); have B6 := Lib.hid (below_step B5.out b6); clear b6))
    | (go_at_call 13; ((refine (l_agree _ _ (Row.made _ _ _)).mono ?_); rintro e w7 ⟨rfl, b7⟩; dsimp only [agrV]; have V7 := Lib.hid ((V6.out.step (below_alloc _ _)).step b7); have B7 := Lib.hid (below_step (keep_alloc B6.out _) b7); have V8 := Lib.hid (V7.out.step (below_alloc _ (.cells #[.int .i64 8, .int .i64 9] 32))); have B8 := Lib.hid (keep_alloc B7.out (.cells #[.int .i64 8, .int .i64 9] 32)); obtain ⟨n0, n1⟩ := V8.out.eqs; clear b7))
    | (go_at_call 17; ((with_reducible refine (l_valid V8.out).mono ?_); rintro e w9 ⟨rfl, b9⟩; have V9 := Lib.hid (V8.out.step b9); have B9 := Lib.hid (below_step B8.out b9); obtain ⟨p0, p1⟩ := V9.out.eqs; clear b9))
    | (go_at_call 24; (first | ((with_reducible refine (l_before S6.out V9.out).mono ?_); rintro e wa ⟨rfl, ba⟩; have Va := Lib.hid (V9.out.step ba); have Ba := Lib.hid (below_step B9.out ba); obtain ⟨q0, q1⟩ := Va.out.eqs; clear ba) | ((with_reducible refine (l_before S7.out Va.out).mono ?_); rintro e wb ⟨rfl, bb⟩; have Vb := Lib.hid (Va.out.step bb); have Bb := Lib.hid (below_step Ba.out bb); obtain ⟨r0, r1⟩ := Vb.out.eqs; clear bb)))
    | (go_at_call 26; (first | ((with_reducible refine (l_after S8.out Vb.out).mono ?_); rintro e wc ⟨rfl, bc⟩; have Vc := Lib.hid (Vb.out.step bc); have Bc := Lib.hid (below_step Bb.out bc); obtain ⟨t0, t1⟩ := Vc.out.eqs; clear bc) | ((with_reducible refine (l_after S9.out Vc.out).mono ?_); rintro e wd ⟨rfl, bd⟩; have Bd := Lib.hid (below_step Bc.out bd); clear bd))))
  go_ret
  exact ⟨rfl, Bd.out⟩
end Go.Proofs.Ytjhcdkllneeijaa
