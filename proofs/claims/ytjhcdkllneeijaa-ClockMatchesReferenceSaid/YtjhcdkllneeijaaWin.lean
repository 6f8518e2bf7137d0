/- clock.eachBounds, clock.showing: the window of the true seconds. -/
import Derived.Test.YtjhcdkllneeijaaSp
import Derived.Deep.LoopGhost
import Derived.Shelf.Abstract
namespace Go.Proofs.Ytjhcdkllneeijaa
open Go.RowKit

theorem far2 {w : World} {g g' : Nat} {t : TypeId} {C : Array Value} (hr : Row w g t C) (hg : g' ≠ g) (v v' : Value) : Row ((w.setCell ⟨g', 0, none⟩ v).setCell ⟨g', 1, none⟩ v') g t C := (hr.aside (p := ⟨g', 0, none⟩) hg v).aside (p := ⟨g', 1, none⟩) hg v'
theorem below_put {B : Nat} {a w : World} {g : Nat} (h : Below B a w) (hg : B ≤ g) (v v' : Value) : Below B a ((w.setCell ⟨g, 0, none⟩ v).setCell ⟨g, 1, none⟩ v') := (h.setCell (p := ⟨g, 0, none⟩) hg v).setCell (p := ⟨g, 1, none⟩) hg v'
theorem put2 {w : World} {g : Nat} {t : TypeId} {a b : Value} (h : Row w g t #[a, b]) (u v : Value) : Row ((w.setCell ⟨g, 0, none⟩ u).setCell ⟨g, 1, none⟩ v) g t #[u, v] := (h.put0 u).put1 v

set_option maxRecDepth 100000 in
set_option maxHeartbeats 8000000 in
theorem eachBounds_any (d : Int) (rs : List Rd) (A : Option Addr) (c : Nat) (l a b : Int) (g B : Nat) (d0 : 0 ≤ d) (d1 : d ≤ 100) (l0 : 0 ≤ l) (l1 : l ≤ 10000000)
    (hg : goodB (-1) rs = true) (hn : rs.length ≤ 12) (w : World) (hBg : B ≤ g) (hBw : B ≤ w.heap.size) (hr : Rds w B A rs) (hw : Row w g 62 #[.int .i64 a, .int .i64 b]) :
    Calls Try.prog 45 #[clk d A rs.length c, .int .i64 l, .func (.func 46) #[.pointer (some ⟨g, 0, none⟩)] #[]] w fun e w' =>
      e = .returned (.tuple #[]) ∧ Row w' g 62 #[.int .i64 (rs.foldl (nar d l) (a, b)).1, .int .i64 (rs.foldl (nar d l) (a, b)).2] ∧ Below B w w' := by
  obtain ⟨F, hF⟩ : ∃ F, F = rs.foldl (nar d l) (a, b) := ⟨_, rfl⟩
  obtain ⟨L, hL⟩ : ∃ L, L = rs.length := ⟨_, rfl⟩
  rw [← hF, ← hL]
  rw [← hL] at hn
  have hgin := hw.inside
  have hgn : g ≠ w.heap.size := by omega
  have HG := Lib.hid (good_all hg); have HL := Lib.hid hL; have HR := Lib.hid hr; have HF := Lib.hid hF; have HW := Lib.hid hw
  clear hg hL hr hF hw
  unfold clk
  go_enter Try.func45, Try.ntmps45
  go_wp2
  go_loopg [7, 8, 9, 13] L (fun kx s7 s8 s9 s13 wr => ∃ (k : Nat) (x y : Int), s13 = .int .i64 (k : Int) ∧ k + kx = L ∧ Row wr g 62 #[.int .i64 x, .int .i64 y] ∧ Row wr w.heap.size 24 #[.int .i64 d, .slice A L c] ∧ Below B w wr ∧ Hid ((rs.drop k).foldl (nar d l) (x, y) = F))
  case atStart => exact ⟨0, a, b, rfl, by omega, HW.out.later _, Row.made _ _ _, (Below.refl _ _).alloc hBw _, Lib.hid HF.out.symm⟩
  case round =>
    obtain ⟨k, x, y, rfl, hk, hW, hC, hb, I⟩ := hrel
    by_cases hlt : k < L
    · obtain ⟨⟨r1, r2, r3⟩, hv⟩ : ∃ y, rs[k]? = some y := ⟨rs[k]'(by rw [← HL.out]; exact hlt), by simp⟩
      obtain ⟨bb, o, hA, hbb, e0, e1, e2⟩ := (HR.out.below hb).at hv
      subst hA
      obtain ⟨q0, q1, q2, q3, q4⟩ := HG.out _ (List.mem_of_getElem? hv)
      dsimp only at e0 e1 e2 q0 q1 q2 q3 q4
      have hd : rs.drop k = (r1, r2, r3) :: rs.drop (k + 1) := by
        obtain ⟨h2, h3⟩ := List.getElem?_eq_some_iff.1 hv
        rw [List.drop_eq_getElem_cons h2, h3]
      have hI := I.out
      rw [hd, List.foldl_cons] at hI
      obtain ⟨n, hn'⟩ : ∃ n, n = (if r1 < l then l - r1 else r1 - l) := ⟨_, rfl⟩
      have n0 : 0 ≤ n := by rw [hn']; split <;> omega
      have n1 : n ≤ 10000000 := by rw [hn']; split <;> omega
      have cd := distance_any r1 l (by omega) q1 l0 l1
      rw [← hn'] at cd
      have cs := spread_any d n
      rw [spreadS, if_pos ⟨d0, d1, n0, n1⟩] at cs
      dsimp only at cs
      have x0 := lo_nonneg (n := n) d0
      have x1 := lo_hi d0 d1 n0
      have x2 := hi_big d0 d1 n0 n1
      obtain ⟨g0, g1, g2, g3⟩ := hC.two
      have lb : l ≤ 9223372036854775807 := by omega
      by_cases hc1 : r1 < l
      · have hbn : bnd d (r1, r2, r3) l = (r2 + lo d n, r3 + hi d n) := by rw [bnd, if_pos hc1, hn', if_pos hc1]
        rw [nar, hbn] at hI
        dsimp only at hI
        generalize lo d n = X at *
        generalize hi d n = Y at *
        clear hbn
        have CN : ∀ W, Row W g 62 #[.int .i64 x, .int .i64 y] → Calls Try.prog 46 #[.pointer (some ⟨g, 0, none⟩), .int .i64 (r2 + X), .int .i64 (r3 + Y)] W fun e w' => e = .returned (.tuple #[]) ∧ w' = (W.setCell ⟨g, 0, none⟩ (.int .i64 (max x (r2 + X)))).setCell ⟨g, 1, none⟩ (.int .i64 (min y (r3 + Y))) := fun W h => narrow_any g x y _ _ W h
        have CD := Lib.hid cd; have CS := Lib.hid cs; have CN' := Lib.hid CN; have HI := Lib.hid hI; have HB := Lib.hid hb; have HC := Lib.hid hC; have HW' := Lib.hid hW
        clear cd cs CN hI hb hC hW hn' hd hv I
        go_wp2
        obtain ⟨W1, hW1⟩ : ∃ W1, W1 = wr.alloc (Obj.cells #[Value.int IntKind.i64 r1, Value.int IntKind.i64 r2, Value.int IntKind.i64 r3] 50) := ⟨_, rfl⟩
        rw [← hW1]
        have RR : Row W1 wr.heap.size 50 #[.int .i64 r1, .int .i64 r2, .int .i64 r3] := by rw [hW1]; exact Row.made _ _ _
        have RC : Row W1 w.heap.size 24 #[.int .i64 d, .slice (some ⟨bb, o, none⟩) L c] := by rw [hW1]; exact HC.out.later _
        have RW : Row W1 g 62 #[.int .i64 x, .int .i64 y] := by rw [hW1]; exact HW'.out.later _
        have RB : Below B w W1 := by rw [hW1]; exact HB.out.alloc (Nat.le_trans hBw HB.out.size) _
        obtain ⟨f0, f1, f2, _⟩ := RR.three
        obtain ⟨g0, g1, g2, g3⟩ := RC.two
        have RW' := Lib.hid RW; have RB' := Lib.hid RB; have RC' := Lib.hid RC
        clear hW1 RR RC RW RB
        go_quiet ((first | (go_at_call 51; exact Calls.quiet_of_same (CD.out _)) | (go_at_call 11; exact Calls.quiet_of_same (CS.out _))))
        go_wp2_with (first | (go_at_call 46; (refine (CN'.out _ (Row.drawnN RW'.out _)).mono ?_); rintro e w3 ⟨rfl, rfl⟩))
        go_roundg (L - (k + 1))
        case measure => omega
        case rel => exact ⟨k + 1, _, _, by go_num, by omega, put2 (RW'.out.drawnN _) _ _, far2 (RC'.out.drawnN _) hgn _ _, below_put (below_drawnN RB'.out _) hBg _ _, Lib.hid HI.out⟩
      · by_cases hc2 : l < r1
        · have hbn : bnd d (r1, r2, r3) l = (r2 - hi d n, r3 - lo d n) := by rw [bnd, if_neg hc1, if_pos hc2, hn', if_neg hc1]
          rw [nar, hbn] at hI
          dsimp only at hI
          generalize lo d n = X at *
          generalize hi d n = Y at *
          clear hbn
          have CN : ∀ W, Row W g 62 #[.int .i64 x, .int .i64 y] → Calls Try.prog 46 #[.pointer (some ⟨g, 0, none⟩), .int .i64 (r2 - Y), .int .i64 (r3 - X)] W fun e w' => e = .returned (.tuple #[]) ∧ w' = (W.setCell ⟨g, 0, none⟩ (.int .i64 (max x (r2 - Y)))).setCell ⟨g, 1, none⟩ (.int .i64 (min y (r3 - X))) := fun W h => narrow_any g x y _ _ W h
          have CD := Lib.hid cd; have CS := Lib.hid cs; have CN' := Lib.hid CN; have HI := Lib.hid hI; have HB := Lib.hid hb; have HC := Lib.hid hC; have HW' := Lib.hid hW
          clear cd cs CN hI hb hC hW hn' hd hv I
          go_wp2
          obtain ⟨W1, hW1⟩ : ∃ W1, W1 = wr.alloc (Obj.cells #[Value.int IntKind.i64 r1, Value.int IntKind.i64 r2, Value.int IntKind.i64 r3] 50) := ⟨_, rfl⟩
          rw [← hW1]
          have RR : Row W1 wr.heap.size 50 #[.int .i64 r1, .int .i64 r2, .int .i64 r3] := by rw [hW1]; exact Row.made _ _ _
          have RC : Row W1 w.heap.size 24 #[.int .i64 d, .slice (some ⟨bb, o, none⟩) L c] := by rw [hW1]; exact HC.out.later _
          have RW : Row W1 g 62 #[.int .i64 x, .int .i64 y] := by rw [hW1]; exact HW'.out.later _
          have RB : Below B w W1 := by rw [hW1]; exact HB.out.alloc (Nat.le_trans hBw HB.out.size) _
          obtain ⟨f0, f1, f2, _⟩ := RR.three
          obtain ⟨g0, g1, g2, g3⟩ := RC.two
          have RW' := Lib.hid RW; have RB' := Lib.hid RB; have RC' := Lib.hid RC
          clear hW1 RR RC RW RB
          go_quiet ((first | (go_at_call 51; exact Calls.quiet_of_same (CD.out _)) | (go_at_call 11; exact Calls.quiet_of_same (CS.out _))))
          go_wp2_with (first | (go_at_call 46; (refine (CN'.out _ (Row.drawnN RW'.out _)).mono ?_); rintro e w3 ⟨rfl, rfl⟩))
          go_roundg (L - (k + 1))
          case measure => omega
          case rel => exact ⟨k + 1, _, _, by go_num, by omega, put2 (RW'.out.drawnN _) _ _, far2 (RC'.out.drawnN _) hgn _ _, below_put (below_drawnN RB'.out _) hBg _ _, Lib.hid HI.out⟩
        · have hbn : bnd d (r1, r2, r3) l = (r2 - hi d n, r3 + hi d n) := by rw [bnd, if_neg hc1, if_neg hc2, hn', if_neg hc1, show r1 - l = 0 by omega]
          rw [nar, hbn] at hI
          dsimp only at hI
          generalize lo d n = X at *
          generalize hi d n = Y at *
          clear hbn
          have CN : ∀ W, Row W g 62 #[.int .i64 x, .int .i64 y] → Calls Try.prog 46 #[.pointer (some ⟨g, 0, none⟩), .int .i64 (r2 - Y), .int .i64 (r3 + Y)] W fun e w' => e = .returned (.tuple #[]) ∧ w' = (W.setCell ⟨g, 0, none⟩ (.int .i64 (max x (r2 - Y)))).setCell ⟨g, 1, none⟩ (.int .i64 (min y (r3 + Y))) := fun W h => narrow_any g x y _ _ W h
          have CD := Lib.hid cd; have CS := Lib.hid cs; have CN' := Lib.hid CN; have HI := Lib.hid hI; have HB := Lib.hid hb; have HC := Lib.hid hC; have HW' := Lib.hid hW
          clear cd cs CN hI hb hC hW hn' hd hv I
          go_wp2
          obtain ⟨W1, hW1⟩ : ∃ W1, W1 = wr.alloc (Obj.cells #[Value.int IntKind.i64 r1, Value.int IntKind.i64 r2, Value.int IntKind.i64 r3] 50) := ⟨_, rfl⟩
          rw [← hW1]
          have RR : Row W1 wr.heap.size 50 #[.int .i64 r1, .int .i64 r2, .int .i64 r3] := by rw [hW1]; exact Row.made _ _ _
          have RC : Row W1 w.heap.size 24 #[.int .i64 d, .slice (some ⟨bb, o, none⟩) L c] := by rw [hW1]; exact HC.out.later _
          have RW : Row W1 g 62 #[.int .i64 x, .int .i64 y] := by rw [hW1]; exact HW'.out.later _
          have RB : Below B w W1 := by rw [hW1]; exact HB.out.alloc (Nat.le_trans hBw HB.out.size) _
          obtain ⟨f0, f1, f2, _⟩ := RR.three
          obtain ⟨g0, g1, g2, g3⟩ := RC.two
          have RW' := Lib.hid RW; have RB' := Lib.hid RB; have RC' := Lib.hid RC
          clear hW1 RR RC RW RB
          go_quiet ((first | (go_at_call 51; exact Calls.quiet_of_same (CD.out _)) | (go_at_call 11; exact Calls.quiet_of_same (CS.out _))))
          go_wp2_with (first | (go_at_call 46; (refine (CN'.out _ (Row.drawnN RW'.out _)).mono ?_); rintro e w3 ⟨rfl, rfl⟩))
          go_roundg (L - (k + 1))
          case measure => omega
          case rel => exact ⟨k + 1, _, _, by go_num, by omega, put2 (RW'.out.drawnN _) _ _, far2 (RC'.out.drawnN _) hgn _ _, below_put (below_drawnN RB'.out _) hBg _ _, Lib.hid HI.out⟩
    · have hI := I.out
      rw [List.drop_of_length_le (by rw [← HL.out]; omega), List.foldl_nil] at hI
      have HB := Lib.hid hb; have HW' := Lib.hid hW
      clear I hb hW hC
      subst hI
      go_wp2
      go_end0
      exact ⟨rfl, HW'.out, HB.out⟩

theorem load_win {w : World} {g : Nat} {a b : Value} (h : Row w g 62 #[a, b]) : (loadVar 62 ⟨g, 0, none⟩).run Try.prog w = .ok (.agg #[a, b]) w := by
  obtain ⟨k0, k1, _, _⟩ := h.two
  simp [loadVar, go_sem, k0, k1]
section
variable {fn : Func} {p : Tmp} {tmps : Array Value} {w : World} {g : Nat} {a b : Value}
theorem asAddr_ptr (hp : tmps.getD p undef = .pointer (some ⟨g, 0, none⟩)) : (asAddr (tmps.getD p undef)).run Try.prog w = .ok ⟨g, 0, none⟩ w := by rw [hp]; rfl
theorem res_win (h : fn.results = #[.cell p 62]) (hp : tmps.getD p undef = .pointer (some ⟨g, 0, none⟩)) (hr : Row w g 62 #[a, b]) : (results fn tmps).run Try.prog w = .ok (.agg #[a, b]) w := by
  have hl := load_win hr
  have ha := asAddr_ptr (w := w) hp
  simp only [results, h]
  simp only [List.size_toArray, List.length_cons, List.length_nil, Nat.reduceAdd, List.mapM_toArray, List.mapM_cons, List.mapM_nil]
  simp [Sem.run_bind, Result.andThen, ha, hl, -Array.getD_eq_getD_getElem?]
end

set_option maxRecDepth 100000 in
set_option maxHeartbeats 8000000 in
theorem showing_any (d : Int) (rs : List Rd) (A : Option Addr) (c : Nat) (l : Int) (d0 : 0 ≤ d) (d1 : d ≤ 100) (l0 : 0 ≤ l) (l1 : l ≤ 10000000)
    (hg : goodB (-1) rs = true) (hn : rs.length ≤ 12) (w : World) (hr : Rds w w.heap.size A rs) :
    Calls Try.prog 36 #[clk d A rs.length c, .int .i64 l] w fun e w' => e = .returned (.agg #[.int .i64 (win d rs l).1, .int .i64 (win d rs l).2]) ∧ Below w.heap.size w w' := by
  obtain ⟨L, hL⟩ : ∃ L, L = rs.length := ⟨_, rfl⟩
  have hc := fun (g : Nat) (W : World) (h1 : w.heap.size ≤ g) (h0 : g ≤ W.heap.size) (h2 : Below w.heap.size w W) (h3 : Row W g 62 #[.int .i64 0, .int .i64 10000000]) => eachBounds_any d rs A c l 0 10000000 g g d0 d1 l0 l1 hg hn W (Nat.le_refl _) h0 ((hr.below h2).more h1) h3
  rw [← hL] at hc ⊢
  change ∀ (g : Nat) (W : World), _ → _ → _ → _ → Calls _ _ _ _ fun e w' => e = _ ∧ Row w' g _ #[.int .i64 (win d rs l).1, .int .i64 (win d rs l).2] ∧ _ at hc
  obtain ⟨F, hF⟩ : ∃ F, F = win d rs l := ⟨_, rfl⟩
  rw [← hF] at hc ⊢
  have HC := Lib.hid hc
  clear hc hF hr hg hL
  unfold clk at HC ⊢
  go_enter Try.func36, Try.ntmps36
  go_wp2_with (go_at_call 45; (refine (HC.out (w.heap.size + 2) _ (by omega) (by simp) (((below_alloc _ _).alloc (by simp) _).alloc (by simp; omega) _) (Row.made_at _ _ _ (by simp))).mono ?_); rintro e w3 ⟨rfl, r3, b3⟩; obtain ⟨k0, k1, k2, k3⟩ := r3.two; have r4 : Row w3 (w.heap.size + 1) 62 #[.int .i64 0, .int .i64 0] := Row.below (Row.later (Row.made_at _ _ _ (by simp)) _) b3 (by omega); obtain ⟨m0, m1, m2, m3⟩ := r4.two; have R4 := Lib.hid r4; have B3 := Lib.hid b3; clear r3 r4 b3)
  refine bodyPost_ret (res_win rfl rfl (put2 R4.out _ _)) rfl ?_
  exact ⟨rfl, below_put ((((below_alloc _ _).alloc (by simp) _).alloc (by simp; omega) _).trans (B3.out.mono (by omega))) (by omega) _ _⟩
end Go.Proofs.Ytjhcdkllneeijaa
