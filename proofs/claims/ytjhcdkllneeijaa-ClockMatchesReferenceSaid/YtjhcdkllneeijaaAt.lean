/- clock.At, Before, After. -/
import Derived.Test.YtjhcdkllneeijaaVal
namespace Go.Proofs.Ytjhcdkllneeijaa
open Go.RowKit

theorem Rds.deep {w W : World} {A : Option Addr} {rs : List Rd} (h : Rds w w.heap.size A rs) (hb : Below w.heap.size w W) : Rds W W.heap.size A rs := (h.below hb).more hb.size
theorem gB {d : Int} {rs : List Rd} (h : validB d rs = true) : 0 ≤ d ∧ d ≤ 100 ∧ rs.length ≤ 12 ∧ goodB (-1) rs = true := by
  obtain ⟨⟨a, b⟩, c, e⟩ := valid_iff.1 h
  exact ⟨a, b, c, e⟩
theorem ret3 {a b c a' b' c' : Int} (h : (a, b, c) = (a', b', c')) : Ending.returned (.tuple #[.int .i64 a, .int .i64 b, .int .i64 c]) = .returned (.tuple #[.int .i64 a', .int .i64 b', .int .i64 c']) := by cases h; rfl
theorem bnot {b : Bool} (h : ¬ b = true) : b = false := by simpa using h

set_option maxRecDepth 100000 in
set_option maxHeartbeats 8000000 in
theorem at_any (d : Int) (rs : List Rd) (A : Option Addr) (c : Nat) (l : Int) (hn : rs.length ≤ 9223372036854775807) (w : World) (hr : Rds w w.heap.size A rs) :
    Calls Try.prog 20 #[clk d A rs.length c, .int .i64 l] w fun e w' => e = .returned (.tuple #[.int .i64 (atS d rs l).1, .int .i64 (atS d rs l).2.1, .int .i64 (atS d rs l).2.2]) ∧ Below w.heap.size w w' := by
  obtain ⟨L, hL⟩ : ∃ L, L = rs.length := ⟨_, rfl⟩
  have hv := fun (W : World) (h : Below w.heap.size w W) => valid_any d rs A c hn W (hr.deep h)
  have ha : atS d rs l = if validB d rs = true ∧ okT l = true ∧ (win d rs l).1 ≤ (win d rs l).2 then ((win d rs l).1, (win d rs l).2, 0) else (0, 0, 50) := rfl
  by_cases h1 : validB d rs = true
  · obtain ⟨d0, d1, h12, hg⟩ := gB h1
    by_cases h2 : okT l = true
    · obtain ⟨l0, l1⟩ := okT_iff.1 h2
      have hs := fun (W : World) (h : Below w.heap.size w W) => showing_any d rs A c l d0 d1 l0 l1 hg h12 W (hr.deep h)
      rw [← hL] at hs hv ⊢
      rw [h1] at hv
      by_cases h3 : (win d rs l).1 ≤ (win d rs l).2
      · rw [if_pos ⟨h1, h2, h3⟩] at ha
        rw [ha]
        dsimp only
        generalize (win d rs l).1 = x at *
        generalize (win d rs l).2 = y at *
        have HV := Lib.hid hv; have HS := Lib.hid hs
        clear hv hs ha h1 hr hL hg hn
        unfold clk at HV HS ⊢
        go_enter Try.func20, Try.ntmps20
        go_wp2_with (first
          | (go_at_call 17; (refine (HV.out _ (below_alloc _ _)).mono ?_); rintro e w2 ⟨rfl, b2⟩; have r2 : Row w2 w.heap.size 24 #[.int .i64 d, .slice A L c] := Row.below (Row.made _ _ _) b2 (by simp); obtain ⟨k0, k1, k2, k3⟩ := r2.two; have B2 := Lib.hid (below_step (below_alloc _ _) b2); clear b2 r2)
          | (go_at_call 31; refine (isTime_any _ _).mono ?_; rintro e wx ⟨rfl, hwx⟩; have hwx := hwx.symm; subst hwx)
          | (go_at_call 36; (refine (HS.out _ B2.out).mono ?_); rintro e w3 ⟨rfl, b3⟩; have B3 := Lib.hid (below_step B2.out b3); clear b3))
        obtain ⟨w4, hw4⟩ : ∃ w4, w4 = w3.alloc (Obj.cells #[Value.int IntKind.i64 x, Value.int IntKind.i64 y] 62) := ⟨_, rfl⟩
        rw [← hw4]
        have r4 : Row w4 w3.heap.size 62 #[.int .i64 x, .int .i64 y] := by rw [hw4]; exact Row.made _ _ _
        have B4 := Lib.hid (show Below w.heap.size w w4 by rw [hw4]; exact B3.out.alloc B3.out.size _)
        obtain ⟨m0, m1, m2, m3⟩ := r4.two
        clear hw4 r4
        go_quiet (fail)
        go_wp2
        go_ret3
        exact ⟨rfl, below_drawnN B4.out _⟩
      · rw [if_neg (fun h => h3 h.2.2)] at ha
        rw [ha]
        dsimp only
        generalize (win d rs l).1 = x at *
        generalize (win d rs l).2 = y at *
        have HV := Lib.hid hv; have HS := Lib.hid hs
        clear hv hs ha h1 hr hL hg hn
        unfold clk at HV HS ⊢
        go_enter Try.func20, Try.ntmps20
        go_wp2_with (first
          | (go_at_call 17; (refine (HV.out _ (below_alloc _ _)).mono ?_); rintro e w2 ⟨rfl, b2⟩; have r2 : Row w2 w.heap.size 24 #[.int .i64 d, .slice A L c] := Row.below (Row.made _ _ _) b2 (by simp); obtain ⟨k0, k1, k2, k3⟩ := r2.two; have B2 := Lib.hid (below_step (below_alloc _ _) b2); clear b2 r2)
          | (go_at_call 31; refine (isTime_any _ _).mono ?_; rintro e wx ⟨rfl, hwx⟩; have hwx := hwx.symm; subst hwx)
          | (go_at_call 36; (refine (HS.out _ B2.out).mono ?_); rintro e w3 ⟨rfl, b3⟩; have B3 := Lib.hid (below_step B2.out b3); clear b3))
        go_ret3
        exact ⟨rfl, B3.out.alloc B3.out.size _⟩
    · rw [if_neg (fun h => h2 h.2.1)] at ha
      rw [← hL] at hv ⊢
      rw [h1] at hv
      rw [ha]
      dsimp only
      have h2' := bnot h2
      have HV := Lib.hid hv
      clear hv ha h1 hr hL hg hn h2
      unfold clk at HV ⊢
      go_enter Try.func20, Try.ntmps20
      go_wp2_with (first
        | (go_at_call 17; (refine (HV.out _ (below_alloc _ _)).mono ?_); rintro e w2 ⟨rfl, b2⟩; have r2 : Row w2 w.heap.size 24 #[.int .i64 d, .slice A L c] := Row.below (Row.made _ _ _) b2 (by simp); obtain ⟨k0, k1, k2, k3⟩ := r2.two; have B2 := Lib.hid (below_step (below_alloc _ _) b2); clear b2 r2)
        | (go_at_call 31; refine (isTime_any _ _).mono ?_; rintro e wx ⟨rfl, hwx⟩; have hwx := hwx.symm; subst hwx))
      go_ret3
      exact ⟨rfl, B2.out⟩
  · rw [if_neg (fun h => h1 h.1)] at ha
    rw [← hL] at hv ⊢
    rw [bnot h1] at hv
    rw [ha]
    dsimp only
    have HV := Lib.hid hv
    clear hv ha h1 hr hL hn
    unfold clk at HV ⊢
    go_enter Try.func20, Try.ntmps20
    go_wp2_with (first
      | (go_at_call 17; (refine (HV.out _ (below_alloc _ _)).mono ?_); rintro e w2 ⟨rfl, b2⟩; have r2 : Row w2 w.heap.size 24 #[.int .i64 d, .slice A L c] := Row.below (Row.made _ _ _) b2 (by simp); obtain ⟨k0, k1, k2, k3⟩ := r2.two; have B2 := Lib.hid (below_step (below_alloc _ _) b2); clear b2 r2)
      | (go_at_call 31; refine (isTime_any _ _).mono ?_; rintro e wx ⟨rfl, hwx⟩; have hwx := hwx.symm; subst hwx))
    go_ret3
    exact ⟨rfl, B2.out⟩

set_option maxRecDepth 100000 in
set_option maxHeartbeats 8000000 in
theorem before_any (d : Int) (rs : List Rd) (A : Option Addr) (c : Nat) (l t : Int) (hn : rs.length ≤ 9223372036854775807) (w : World) (hr : Rds w w.heap.size A rs) :
    Calls Try.prog 24 #[clk d A rs.length c, .int .i64 l, .int .i64 t] w fun e w' => e = .returned (.bool (beforeS d rs l t)) ∧ Below w.heap.size w w' := by
  obtain ⟨L, hL⟩ : ∃ L, L = rs.length := ⟨_, rfl⟩
  have ha := fun (W : World) (h : Below w.heap.size w W) => at_any d rs A c l hn W (hr.deep h)
  rw [← hL] at ha ⊢
  unfold beforeS
  generalize (atS d rs l).1 = x at *
  generalize (atS d rs l).2.1 = y at *
  generalize (atS d rs l).2.2 = z at *
  have HA := Lib.hid ha
  clear ha hr hL hn
  unfold clk at HA ⊢
  by_cases hz : z = 0
  · subst hz
    go_enter Try.func24, Try.ntmps24
    go_wp2_with (go_at_call 20; (refine (HA.out _ (below_alloc _ _)).mono ?_); rintro e w2 ⟨rfl, b2⟩; have B2 := Lib.hid (below_step (below_alloc _ _) b2); clear b2)
    all_goals go_ret
    all_goals exact ⟨by simp, B2.out⟩
  · have hz' : decide (z = 0) = false := decide_eq_false hz
    go_enter Try.func24, Try.ntmps24
    go_wp2_with (go_at_call 20; (refine (HA.out _ (below_alloc _ _)).mono ?_); rintro e w2 ⟨rfl, b2⟩; have B2 := Lib.hid (below_step (below_alloc _ _) b2); clear b2)
    all_goals go_ret
    all_goals exact ⟨by simp [hz], B2.out⟩

set_option maxRecDepth 100000 in
set_option maxHeartbeats 8000000 in
theorem after_any (d : Int) (rs : List Rd) (A : Option Addr) (c : Nat) (l t : Int) (hn : rs.length ≤ 9223372036854775807) (w : World) (hr : Rds w w.heap.size A rs) :
    Calls Try.prog 26 #[clk d A rs.length c, .int .i64 l, .int .i64 t] w fun e w' => e = .returned (.bool (afterS d rs l t)) ∧ Below w.heap.size w w' := by
  obtain ⟨L, hL⟩ : ∃ L, L = rs.length := ⟨_, rfl⟩
  have ha := fun (W : World) (h : Below w.heap.size w W) => at_any d rs A c l hn W (hr.deep h)
  rw [← hL] at ha ⊢
  unfold afterS
  generalize (atS d rs l).1 = x at *
  generalize (atS d rs l).2.1 = y at *
  generalize (atS d rs l).2.2 = z at *
  have HA := Lib.hid ha
  clear ha hr hL hn
  unfold clk at HA ⊢
  by_cases hz : z = 0
  · subst hz
    go_enter Try.func26, Try.ntmps26
    go_wp2_with (go_at_call 20; (refine (HA.out _ (below_alloc _ _)).mono ?_); rintro e w2 ⟨rfl, b2⟩; have B2 := Lib.hid (below_step (below_alloc _ _) b2); clear b2)
    all_goals go_ret
    all_goals exact ⟨by simp, B2.out⟩
  · have hz' : decide (z = 0) = false := decide_eq_false hz
    go_enter Try.func26, Try.ntmps26
    go_wp2_with (go_at_call 20; (refine (HA.out _ (below_alloc _ _)).mono ?_); rintro e w2 ⟨rfl, b2⟩; have B2 := Lib.hid (below_step (below_alloc _ _) b2); clear b2)
    all_goals go_ret
    all_goals exact ⟨by simp [hz], B2.out⟩

end Go.Proofs.Ytjhcdkllneeijaa
