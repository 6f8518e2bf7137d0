/- The reference's bounds, At, Before, After. -/
import Derived.Test.YtjhcdkllneeijaaRsp
import Derived.Test.YtjhcdkllneeijaaRva
namespace Go.Proofs.Ytjhcdkllneeijaa
open Go.RowKit

set_option maxRecDepth 100000 in
set_option maxHeartbeats 16000000 in
theorem bounds_any (d : Int) (rs : List Rd) (A : Option Addr) (c : Nat) (l : Int) (d0 : 0 ≤ d) (d1 : d ≤ 100) (l0 : 0 ≤ l) (l1 : l ≤ 10000000)
    (hg : goodB (-1) rs = true) (hn : rs.length ≤ 12) (w : World) (hr : Rds w w.heap.size A rs) :
    Calls Try.prog 37 #[clk d A rs.length c, .int .i64 l] w fun e w' => e = .returned (.tuple #[.int .i64 (win d rs l).1, .int .i64 (win d rs l).2]) ∧ Below w.heap.size w w' := by
  obtain ⟨F, hF⟩ : ∃ F, F = win d rs l := ⟨_, rfl⟩
  obtain ⟨L, hL⟩ : ∃ L, L = rs.length := ⟨_, rfl⟩
  rw [← hF, ← hL]
  rw [← hL] at hn
  have HG := Lib.hid (good_all hg); have HL := Lib.hid hL; have HR := Lib.hid hr; have HF := Lib.hid hF
  clear hg hL hr hF
  unfold clk
  go_enter Try.func37, Try.ntmps37
  go_wp2
  go_loopg [6, 7, 8, 9, 10, 11, 12, 13, 14, 15] L (fun kx s6 s7 s8 s9 s10 s11 s12 s13 s14 s15 wr => ∃ (k : Nat) (x y : Int), s6 = .int .i64 x ∧ s7 = .int .i64 y ∧ s8 = .int .i64 (k : Int) ∧ k + kx = L ∧ Row wr w.heap.size 24 #[.int .i64 d, .slice A L c] ∧ Below w.heap.size w wr ∧ Hid ((rs.drop k).foldl (nar d l) (x, y) = F))
  case atStart => exact ⟨0, 0, 10000000, rfl, rfl, rfl, by omega, Row.made _ _ _, below_alloc _ _, Lib.hid HF.out.symm⟩
  case round =>
    obtain ⟨k, x, y, rfl, rfl, rfl, hk, hC, hb, I⟩ := hrel
    obtain ⟨g0, g1, g2, g3⟩ := hC.two
    by_cases hlt : k < L
    · obtain ⟨⟨r1, r2, r3⟩, hv⟩ : ∃ y, rs[k]? = some y := ⟨rs[k]'(by rw [← HL.out]; exact hlt), by simp⟩
      obtain ⟨bb, o, hA, hbb, e0, e1, e2⟩ := (HR.out.below hb).at hv
      subst hA
      obtain ⟨q0, q1, q2, q3, q4⟩ := HG.out _ (List.mem_of_getElem? hv)
      dsimp only at e0 e1 e2 q0 q1 q2 q3 q4
      have hd : rs.drop k = (r1, r2, r3) :: rs.drop (k + 1) := by
        obtain ⟨h2, h3⟩ := List.getElem?_eq_some_iff.1 hv
        rw [List.drop_eq_getElem_cons h2, h3]
      have hI := I.out
      rw [hd, List.foldl_cons] at hI
      have hrow := hC.later (Obj.cells #[Value.int IntKind.i64 r1, Value.int IntKind.i64 r2, Value.int IntKind.i64 r3] 50)
      obtain ⟨k4, k5, _, _⟩ := hrow.two
      have HB := Lib.hid hb; have HC := Lib.hid hC
      clear hd hv I hb hC hrow
      by_cases c0 : l = r1
      · subst c0
        have n0 : (0 : Int) ≤ 0 := by omega
        have n1 : (0 : Int) ≤ 10000000 := by omega
        have cs := rspread_any d 0
        rw [spreadS, if_pos ⟨d0, d1, n0, n1⟩] at cs
        dsimp only at cs
        have x0 := lo_nonneg (n := (0 : Int)) d0
        have x1 := lo_hi d0 d1 n0
        have x2 := hi_big d0 d1 n0 n1
        have hbn : bnd d (l, r2, r3) l = (r2 - hi d (0), r3 + hi d (0)) := by rw [bnd, if_neg (by dsimp only; omega), if_neg (by dsimp only; omega)]
        rw [nar, hbn] at hI
        dsimp only at hI
        generalize lo d (0) = X at *
        generalize hi d (0) = Y at *
        have eM : ∀ (ts : Array TypeId) (t' : TypeId) (W : World), (Builtin.max_ ts t' #[.int .i64 x, .int .i64 (r2 - Y)]).run Try.prog W = .ok (.int .i64 (max x (r2 - Y))) W := by
          intro ts t' W
          rw [run_max_int2, show (if r2 - Y > x then r2 - Y else x) = max x (r2 - Y) by rw [Int.max_def]; split <;> split <;> omega]
        have eT : ∀ (ts : Array TypeId) (t' : TypeId) (W : World), (Builtin.min_ ts t' #[.int .i64 y, .int .i64 (r3 + Y)]).run Try.prog W = .ok (.int .i64 (min y (r3 + Y))) W := by
          intro ts t' W
          rw [run_min_int2, show (if r3 + Y < y then r3 + Y else y) = min y (r3 + Y) by rw [Int.min_def]; split <;> split <;> omega]
        have CS := Lib.hid cs; have HI := Lib.hid hI
        clear cs hI hbn
        generalize max x (r2 - Y) = mx at *
        generalize min y (r3 + Y) = my at *
        go_wp2_with (go_at_call 12; (with_reducible refine (CS.out _).mono ?_); rintro e wx ⟨rfl, hwx⟩; have hwx := hwx.symm; subst hwx)
        go_roundg (L - (k + 1))
        case measure => omega
        case rel => exact ⟨k + 1, mx, my, rfl, rfl, by go_num, by omega, HC.out.later _, keep_alloc HB.out _, Lib.hid HI.out⟩
      · by_cases c1 : r1 < l
        · skip
          have n0 : 0 ≤ l - r1 := by omega
          have n1 : l - r1 ≤ 10000000 := by omega
          have cs := rspread_any d (l - r1)
          rw [spreadS, if_pos ⟨d0, d1, n0, n1⟩] at cs
          dsimp only at cs
          have x0 := lo_nonneg (n := l - r1) d0
          have x1 := lo_hi d0 d1 n0
          have x2 := hi_big d0 d1 n0 n1
          have hbn : bnd d (r1, r2, r3) l = (r2 + lo d (l - r1), r3 + hi d (l - r1)) := by rw [bnd, if_pos c1]
          rw [nar, hbn] at hI
          dsimp only at hI
          generalize lo d (l - r1) = X at *
          generalize hi d (l - r1) = Y at *
          have eM : ∀ (ts : Array TypeId) (t' : TypeId) (W : World), (Builtin.max_ ts t' #[.int .i64 x, .int .i64 (r2 + X)]).run Try.prog W = .ok (.int .i64 (max x (r2 + X))) W := by
            intro ts t' W
            rw [run_max_int2, show (if r2 + X > x then r2 + X else x) = max x (r2 + X) by rw [Int.max_def]; split <;> split <;> omega]
          have eT : ∀ (ts : Array TypeId) (t' : TypeId) (W : World), (Builtin.min_ ts t' #[.int .i64 y, .int .i64 (r3 + Y)]).run Try.prog W = .ok (.int .i64 (min y (r3 + Y))) W := by
            intro ts t' W
            rw [run_min_int2, show (if r3 + Y < y then r3 + Y else y) = min y (r3 + Y) by rw [Int.min_def]; split <;> split <;> omega]
          have CS := Lib.hid cs; have HI := Lib.hid hI
          clear cs hI hbn
          generalize max x (r2 + X) = mx at *
          generalize min y (r3 + Y) = my at *
          go_wp2_with (go_at_call 12; (with_reducible refine (CS.out _).mono ?_); rintro e wx ⟨rfl, hwx⟩; have hwx := hwx.symm; subst hwx)
          go_roundg (L - (k + 1))
          case measure => omega
          case rel => exact ⟨k + 1, mx, my, rfl, rfl, by go_num, by omega, HC.out.later _, keep_alloc HB.out _, Lib.hid HI.out⟩
        · have c2 : l < r1 := by omega
          have n0 : 0 ≤ r1 - l := by omega
          have n1 : r1 - l ≤ 10000000 := by omega
          have cs := rspread_any d (r1 - l)
          rw [spreadS, if_pos ⟨d0, d1, n0, n1⟩] at cs
          dsimp only at cs
          have x0 := lo_nonneg (n := r1 - l) d0
          have x1 := lo_hi d0 d1 n0
          have x2 := hi_big d0 d1 n0 n1
          have hbn : bnd d (r1, r2, r3) l = (r2 - hi d (r1 - l), r3 - lo d (r1 - l)) := by rw [bnd, if_neg c1, if_pos c2]
          rw [nar, hbn] at hI
          dsimp only at hI
          generalize lo d (r1 - l) = X at *
          generalize hi d (r1 - l) = Y at *
          have eM : ∀ (ts : Array TypeId) (t' : TypeId) (W : World), (Builtin.max_ ts t' #[.int .i64 x, .int .i64 (r2 - Y)]).run Try.prog W = .ok (.int .i64 (max x (r2 - Y))) W := by
            intro ts t' W
            rw [run_max_int2, show (if r2 - Y > x then r2 - Y else x) = max x (r2 - Y) by rw [Int.max_def]; split <;> split <;> omega]
          have eT : ∀ (ts : Array TypeId) (t' : TypeId) (W : World), (Builtin.min_ ts t' #[.int .i64 y, .int .i64 (r3 - X)]).run Try.prog W = .ok (.int .i64 (min y (r3 - X))) W := by
            intro ts t' W
            rw [run_min_int2, show (if r3 - X < y then r3 - X else y) = min y (r3 - X) by rw [Int.min_def]; split <;> split <;> omega]
          have CS := Lib.hid cs; have HI := Lib.hid hI
          clear cs hI hbn
          generalize max x (r2 - Y) = mx at *
          generalize min y (r3 - X) = my at *
          go_wp2_with (go_at_call 12; (with_reducible refine (CS.out _).mono ?_); rintro e wx ⟨rfl, hwx⟩; have hwx := hwx.symm; subst hwx)
          go_roundg (L - (k + 1))
          case measure => omega
          case rel => exact ⟨k + 1, mx, my, rfl, rfl, by go_num, by omega, HC.out.later _, keep_alloc HB.out _, Lib.hid HI.out⟩
    · have hI := I.out
      rw [List.drop_of_length_le (by rw [← HL.out]; omega), List.foldl_nil] at hI
      have HB := Lib.hid hb
      clear I hb hC
      subst hI
      go_wp2
      go_ret2
      exact ⟨rfl, HB.out⟩

set_option maxRecDepth 100000 in
set_option maxHeartbeats 8000000 in
theorem rat_any (d : Int) (rs : List Rd) (A : Option Addr) (c : Nat) (l : Int) (hn : rs.length ≤ 9223372036854775807) (w : World) (hr : Rds w w.heap.size A rs) :
    Calls Try.prog 21 #[clk d A rs.length c, .int .i64 l] w fun e w' => e = .returned (.tuple #[.int .i64 (atS d rs l).1, .int .i64 (atS d rs l).2.1, .int .i64 (atS d rs l).2.2]) ∧ Below w.heap.size w w' := by
  obtain ⟨L, hL⟩ : ∃ L, L = rs.length := ⟨_, rfl⟩
  have hv := fun (W : World) (h : Below w.heap.size w W) => rvalid_any d rs A c hn W (hr.deep h)
  have ha : atS d rs l = if validB d rs = true ∧ okT l = true ∧ (win d rs l).1 ≤ (win d rs l).2 then ((win d rs l).1, (win d rs l).2, 0) else (0, 0, 50) := rfl
  by_cases h1 : validB d rs = true
  · obtain ⟨d0, d1, h12, hg⟩ := gB h1
    by_cases h2 : 0 ≤ l
    · by_cases h22 : l ≤ 10000000
      · have hs := fun (W : World) (h : Below w.heap.size w W) => bounds_any d rs A c l d0 d1 h2 h22 hg h12 W (hr.deep h)
        rw [← hL] at hs hv ⊢
        rw [h1] at hv
        have t1 : decide (l < 0) = false := decide_eq_false (by omega)
        have t2 : decide (10000000 < l) = false := decide_eq_false (by omega)
        by_cases h3 : (win d rs l).1 ≤ (win d rs l).2
        · rw [if_pos ⟨h1, okT_iff.2 ⟨h2, h22⟩, h3⟩] at ha
          rw [ha]
          dsimp only
          generalize (win d rs l).1 = x at *
          generalize (win d rs l).2 = y at *
          have HV := Lib.hid hv; have HS := Lib.hid hs
          clear hv hs ha h1 hr hL hg hn
          unfold clk at HV HS ⊢
          go_enter Try.func21, Try.ntmps21
          go_wp2_with (first
            | (go_at_call 18; (refine (HV.out _ (below_alloc _ _)).mono ?_); rintro e w2 ⟨rfl, b2⟩; have r2 : Row w2 w.heap.size 24 #[.int .i64 d, .slice A L c] := Row.below (Row.made _ _ _) b2 (by simp); obtain ⟨k0, k1, k2, k3⟩ := r2.two; have B2 := Lib.hid (below_step (below_alloc _ _) b2); clear b2 r2)
            | (go_at_call 37; (refine (HS.out _ B2.out).mono ?_); rintro e w3 ⟨rfl, b3⟩; have B3 := Lib.hid (below_step B2.out b3); clear b3))
          go_ret3
          exact ⟨rfl, B3.out⟩
        · rw [if_neg (fun h => h3 h.2.2)] at ha
          rw [ha]
          dsimp only
          generalize (win d rs l).1 = x at *
          generalize (win d rs l).2 = y at *
          have HV := Lib.hid hv; have HS := Lib.hid hs
          clear hv hs ha h1 hr hL hg hn
          unfold clk at HV HS ⊢
          go_enter Try.func21, Try.ntmps21
          go_wp2_with (first
            | (go_at_call 18; (refine (HV.out _ (below_alloc _ _)).mono ?_); rintro e w2 ⟨rfl, b2⟩; have r2 : Row w2 w.heap.size 24 #[.int .i64 d, .slice A L c] := Row.below (Row.made _ _ _) b2 (by simp); obtain ⟨k0, k1, k2, k3⟩ := r2.two; have B2 := Lib.hid (below_step (below_alloc _ _) b2); clear b2 r2)
            | (go_at_call 37; (refine (HS.out _ B2.out).mono ?_); rintro e w3 ⟨rfl, b3⟩; have B3 := Lib.hid (below_step B2.out b3); clear b3))
          go_ret3
          exact ⟨rfl, B3.out⟩
      · rw [if_neg (fun h => h22 (okT_iff.1 h.2.1).2)] at ha
        rw [← hL] at hv ⊢
        rw [h1] at hv
        rw [ha]
        dsimp only
        have t1 : decide (l < 0) = false := decide_eq_false (by omega)
        have t2 : decide (10000000 < l) = true := decide_eq_true (by omega)
        have HV := Lib.hid hv
        clear hv ha h1 hr hL hg hn
        unfold clk at HV ⊢
        go_enter Try.func21, Try.ntmps21
        go_wp2_with (first
          | (go_at_call 18; (refine (HV.out _ (below_alloc _ _)).mono ?_); rintro e w2 ⟨rfl, b2⟩; have r2 : Row w2 w.heap.size 24 #[.int .i64 d, .slice A L c] := Row.below (Row.made _ _ _) b2 (by simp); obtain ⟨k0, k1, k2, k3⟩ := r2.two; have B2 := Lib.hid (below_step (below_alloc _ _) b2); clear b2 r2))
        go_ret3
        exact ⟨rfl, B2.out⟩
    · rw [if_neg (fun h => h2 (okT_iff.1 h.2.1).1)] at ha
      rw [← hL] at hv ⊢
      rw [h1] at hv
      rw [ha]
      dsimp only
      have t1 : decide (l < 0) = true := decide_eq_true (by omega)
      have HV := Lib.hid hv
      clear hv ha h1 hr hL hg hn
      unfold clk at HV ⊢
      go_enter Try.func21, Try.ntmps21
      go_wp2_with (first
        | (go_at_call 18; (refine (HV.out _ (below_alloc _ _)).mono ?_); rintro e w2 ⟨rfl, b2⟩; have r2 : Row w2 w.heap.size 24 #[.int .i64 d, .slice A L c] := Row.below (Row.made _ _ _) b2 (by simp); obtain ⟨k0, k1, k2, k3⟩ := r2.two; have B2 := Lib.hid (below_step (below_alloc _ _) b2); clear b2 r2))
      go_ret3
      exact ⟨rfl, B2.out⟩
  · rw [if_neg (fun h => h1 h.1)] at ha
    rw [← hL] at hv ⊢
    rw [bnot h1] at hv
    rw [ha]
    dsimp only
    have HV := Lib.hid hv
    clear hv ha h1 hr hL hn
    unfold clk at HV ⊢
    go_enter Try.func21, Try.ntmps21
    go_wp2_with (first
      | (go_at_call 18; (refine (HV.out _ (below_alloc _ _)).mono ?_); rintro e w2 ⟨rfl, b2⟩; have r2 : Row w2 w.heap.size 24 #[.int .i64 d, .slice A L c] := Row.below (Row.made _ _ _) b2 (by simp); obtain ⟨k0, k1, k2, k3⟩ := r2.two; have B2 := Lib.hid (below_step (below_alloc _ _) b2); clear b2 r2))
    go_ret3
    exact ⟨rfl, B2.out⟩

set_option maxRecDepth 100000 in
set_option maxHeartbeats 8000000 in
theorem rbefore_any (d : Int) (rs : List Rd) (A : Option Addr) (c : Nat) (l t : Int) (hn : rs.length ≤ 9223372036854775807) (w : World) (hr : Rds w w.heap.size A rs) :
    Calls Try.prog 25 #[clk d A rs.length c, .int .i64 l, .int .i64 t] w fun e w' => e = .returned (.bool (beforeS d rs l t)) ∧ Below w.heap.size w w' := by
  obtain ⟨L, hL⟩ : ∃ L, L = rs.length := ⟨_, rfl⟩
  have ha := fun (W : World) (h : Below w.heap.size w W) => rat_any d rs A c l hn W (hr.deep h)
  rw [← hL] at ha ⊢
  unfold beforeS
  generalize (atS d rs l).1 = x at *
  generalize (atS d rs l).2.1 = y at *
  generalize (atS d rs l).2.2 = z at *
  have HA := Lib.hid ha
  clear ha hr hL hn
  unfold clk at HA ⊢
  by_cases hz : z = 0
  · subst hz
    go_enter Try.func25, Try.ntmps25
    go_wp2_with (go_at_call 21; (refine (HA.out _ (below_alloc _ _)).mono ?_); rintro e w2 ⟨rfl, b2⟩; have B2 := Lib.hid (below_step (below_alloc _ _) b2); clear b2)
    all_goals go_ret
    all_goals exact ⟨by simp, B2.out⟩
  · have hz' : decide (z = 0) = false := decide_eq_false hz
    go_enter Try.func25, Try.ntmps25
    go_wp2_with (go_at_call 21; (refine (HA.out _ (below_alloc _ _)).mono ?_); rintro e w2 ⟨rfl, b2⟩; have B2 := Lib.hid (below_step (below_alloc _ _) b2); clear b2)
    all_goals go_ret
    all_goals exact ⟨by simp [hz], B2.out⟩

set_option maxRecDepth 100000 in
set_option maxHeartbeats 8000000 in
theorem rafter_any (d : Int) (rs : List Rd) (A : Option Addr) (c : Nat) (l t : Int) (hn : rs.length ≤ 9223372036854775807) (w : World) (hr : Rds w w.heap.size A rs) :
    Calls Try.prog 27 #[clk d A rs.length c, .int .i64 l, .int .i64 t] w fun e w' => e = .returned (.bool (afterS d rs l t)) ∧ Below w.heap.size w w' := by
  obtain ⟨L, hL⟩ : ∃ L, L = rs.length := ⟨_, rfl⟩
  have ha := fun (W : World) (h : Below w.heap.size w W) => rat_any d rs A c l hn W (hr.deep h)
  rw [← hL] at ha ⊢
  unfold afterS
  generalize (atS d rs l).1 = x at *
  generalize (atS d rs l).2.1 = y at *
  generalize (atS d rs l).2.2 = z at *
  have HA := Lib.hid ha
  clear ha hr hL hn
  unfold clk at HA ⊢
  by_cases hz : z = 0
  · subst hz
    go_enter Try.func27, Try.ntmps27
    go_wp2_with (go_at_call 21; (refine (HA.out _ (below_alloc _ _)).mono ?_); rintro e w2 ⟨rfl, b2⟩; have B2 := Lib.hid (below_step (below_alloc _ _) b2); clear b2)
    all_goals go_ret
    all_goals exact ⟨by simp, B2.out⟩
  · have hz' : decide (z = 0) = false := decide_eq_false hz
    go_enter Try.func27, Try.ntmps27
    go_wp2_with (go_at_call 21; (refine (HA.out _ (below_alloc _ _)).mono ?_); rintro e w2 ⟨rfl, b2⟩; have B2 := Lib.hid (below_step (below_alloc _ _) b2); clear b2)
    all_goals go_ret
    all_goals exact ⟨by simp [hz], B2.out⟩

end Go.Proofs.Ytjhcdkllneeijaa
