/- The reference's Valid. -/
import Derived.Test.YtjhcdkllneeijaaAt
import Derived.Deep.Cut
namespace Go.Proofs.Ytjhcdkllneeijaa
open Go.RowKit

set_option maxRecDepth 100000 in
set_option maxHeartbeats 16000000 in
theorem rvalid_any (d : Int) (rs : List Rd) (A : Option Addr) (c : Nat) (hn : rs.length ≤ 9223372036854775807) (w : World) (hr : Rds w w.heap.size A rs) :
    Calls Try.prog 18 #[clk d A rs.length c] w fun e w' => e = .returned (.bool (validB d rs)) ∧ Below w.heap.size w w' := by
  obtain ⟨L, hL⟩ : ∃ L, L = rs.length := ⟨_, rfl⟩
  have hv : validB d rs = (decide (0 ≤ d) && decide (d ≤ 100) && decide (L ≤ 12) && goodB (-1) rs) := by rw [hL]; rfl
  rw [hv, ← hL]
  rw [← hL] at hn
  clear hv
  unfold clk
  by_cases h1 : 0 ≤ d
  · rw [decide_eq_true h1, Bool.true_and]
    by_cases h2 : d ≤ 100
    · rw [decide_eq_true h2, Bool.true_and]
      by_cases h12 : L ≤ 12
      · rw [decide_eq_true h12, Bool.true_and]
        obtain ⟨G, hG⟩ : ∃ G, G = goodB (-1) rs := ⟨_, rfl⟩
        rw [← hG]
        have HL := Lib.hid hL; have HR := Lib.hid hr; have HG := Lib.hid hG
        clear hL hr hG
        go_enter Try.func18, Try.ntmps18
        go_wp2
        go_loopg [3, 4] L (fun kx s3 s4 wr => ∃ (k : Nat) (b : Int), s3 = .int .i64 (k : Int) ∧ k + kx = L ∧ -1 ≤ b ∧ ((k = 0 ∧ b = -1) ∨ ∃ (M : Nat) (r : Rd), k = M + 1 ∧ rs[M]? = some r ∧ b = r.1) ∧ Row wr w.heap.size 24 #[.int .i64 d, .slice A L c] ∧ Below w.heap.size w wr ∧ Hid (goodB b (rs.drop k) = G))
        case atStart => exact ⟨0, -1, rfl, by omega, by omega, .inl ⟨rfl, rfl⟩, Row.made _ _ _, below_alloc _ _, Lib.hid HG.out.symm⟩
        case round =>
          obtain ⟨k, b, rfl, hk, hb1, hcase, hC, hb, I⟩ := hrel
          by_cases hlt : k < L
          · obtain ⟨⟨x, y, z⟩, hv⟩ : ∃ y, rs[k]? = some y := ⟨rs[k]'(by rw [← HL.out]; exact hlt), by simp⟩
            obtain ⟨bb, o, hA, hbb, e0, e1, e2⟩ := (HR.out.below hb).at hv
            subst hA
            dsimp only at e0 e1 e2
            have hd' : rs.drop k = (x, y, z) :: rs.drop (k + 1) := by
              obtain ⟨h2, h3⟩ := List.getElem?_eq_some_iff.1 hv
              rw [List.drop_eq_getElem_cons h2, h3]
            have hI := I.out
            rw [hd', goodB] at hI
            dsimp only at hI
            obtain ⟨g0, g1, g2, g3⟩ := hC.two
            have HC := Lib.hid hC; have HB := Lib.hid hb; have HI := Lib.hid hI; have HV := Lib.hid hv; have hbs := hb.size
            clear hC hb hI hd' I hv
            go_upto_region 7 with fail
            obtain ⟨W5, hW5⟩ : ∃ W5, W5 = wr.alloc (Obj.cells #[Value.int IntKind.i64 x, Value.int IntKind.i64 y, Value.int IntKind.i64 z] 50) := ⟨_, rfl⟩
            rw [← hW5]
            have r5 : Row W5 wr.heap.size 50 #[.int .i64 x, .int .i64 y, .int .i64 z] := by rw [hW5]; exact Row.made _ _ _
            have c5 : Row W5 w.heap.size 24 #[.int .i64 d, .slice (some ⟨bb, o, none⟩) L c] := by rw [hW5]; exact HC.out.later _
            have b5 : Below w.heap.size w W5 := by rw [hW5]; exact keep_alloc HB.out _
            obtain ⟨x0, x1, x2, _⟩ := r5.three
            obtain ⟨y0, y1, _, _⟩ := c5.two
            have C5 := Lib.hid c5; have B5 := Lib.hid b5
            clear hW5 r5 c5 b5 g0 g1 g2 g3 e0 e1 e2
            by_cases c1 : x < 0
            · have c1' : decide (x < 0) = true := decide_eq_true c1
              have hG : G = false := by
                rw [← HI.out]
                rw [decide_eq_false (show ¬ b < x by omega)]; simp
              have HG2 := Lib.hid hG
              clear hG
              go_quiet (fail)
              go_wp2
              go_ret
              exact ⟨by rw [HG2.out]; rfl, below_drawnN B5.out _⟩
            · have c1' : decide (x < 0) = false := decide_eq_false c1
              by_cases c2 : 10000000 < x
              · have c2' : decide (10000000 < x) = true := decide_eq_true c2
                have hG : G = false := by
                  rw [← HI.out]
                  rw [decide_eq_false (show ¬ x ≤ 10000000 by omega)]; simp
                have HG2 := Lib.hid hG
                clear hG
                go_quiet (fail)
                go_wp2
                go_ret
                exact ⟨by rw [HG2.out]; rfl, below_drawnN B5.out _⟩
              · have c2' : decide (10000000 < x) = false := decide_eq_false c2
                by_cases c3 : y < 0
                · have c3' : decide (y < 0) = true := decide_eq_true c3
                  have hG : G = false := by
                    rw [← HI.out]
                    rw [decide_eq_false (show ¬ 0 ≤ y by omega)]; simp
                  have HG2 := Lib.hid hG
                  clear hG
                  go_quiet (fail)
                  go_wp2
                  go_ret
                  exact ⟨by rw [HG2.out]; rfl, below_drawnN B5.out _⟩
                · have c3' : decide (y < 0) = false := decide_eq_false c3
                  by_cases c4 : z < y
                  · have c4' : decide (z < y) = true := decide_eq_true c4
                    have hG : G = false := by
                      rw [← HI.out]
                      rw [decide_eq_false (show ¬ y ≤ z by omega)]; simp
                    have HG2 := Lib.hid hG
                    clear hG
                    go_quiet (fail)
                    go_wp2
                    go_ret
                    exact ⟨by rw [HG2.out]; rfl, below_drawnN B5.out _⟩
                  · have c4' : decide (z < y) = false := decide_eq_false c4
                    by_cases c5 : 10000000 < z
                    · have c5' : decide (10000000 < z) = true := decide_eq_true c5
                      have hG : G = false := by
                        rw [← HI.out]
                        rw [decide_eq_false (show ¬ z ≤ 10000000 by omega)]; simp
                      have HG2 := Lib.hid hG
                      clear hG
                      go_quiet (fail)
                      go_wp2
                      go_ret
                      exact ⟨by rw [HG2.out]; rfl, below_drawnN B5.out _⟩
                    · have c5' : decide (10000000 < z) = false := decide_eq_false c5
                      rcases hcase with ⟨rfl, rfl⟩ | ⟨M, p, hM, hp, rfl⟩
                      · skip
                        have hI2 := HI.out
                        rw [decide_eq_true (show -1 < x by omega), decide_eq_true (show x ≤ 10000000 by omega), decide_eq_true (show 0 ≤ y by omega), decide_eq_true (show y ≤ z by omega), decide_eq_true (show z ≤ 10000000 by omega), Bool.true_and, Bool.true_and, Bool.true_and, Bool.true_and, Bool.true_and] at hI2
                        have HI2 := Lib.hid hI2
                        clear hI2
                        go_quiet (fail)
                        go_wp2
                        go_roundg (L - (0 + 1))
                        case measure => omega
                        case rel => exact ⟨0 + 1, x, by go_num, by omega, by omega, .inr ⟨0, _, rfl, HV.out, rfl⟩, C5.out.drawnN _, below_drawnN B5.out _, HI2⟩
                      · obtain ⟨b', o', hA', _, v0, _, _⟩ := (HR.out.below B5.out).at hp
                        cases hA'
                        have m1 : (k : Int) - 1 = (M : Int) := by omega
                        have m2 : decide (0 < (k : Int)) = true := decide_eq_true (by omega)
                        have m3 : decide ((M : Int) < (L : Int)) = true := decide_eq_true (by omega)
                        have m4 : M < L := by omega
                        have m5 : decide (0 < k) = true := decide_eq_true (by omega)
                        have m6 : 0 < k := by omega
                        generalize p.1 = pl at *
                        clear hM hp
                        by_cases c6 : x ≤ pl
                        · have c6' : decide (x ≤ pl) = true := decide_eq_true c6
                          have hG : G = false := by
                            rw [← HI.out]
                            rw [decide_eq_false (show ¬ pl < x by omega)]; simp
                          have HG2 := Lib.hid hG
                          clear hG
                          go_quiet (fail)
                          go_wp2
                          go_ret
                          exact ⟨by rw [HG2.out]; rfl, below_drawnN B5.out _⟩
                        · have c6' : decide (x ≤ pl) = false := decide_eq_false c6
                          have hI2 := HI.out
                          rw [decide_eq_true (show pl < x by omega), decide_eq_true (show x ≤ 10000000 by omega), decide_eq_true (show 0 ≤ y by omega), decide_eq_true (show y ≤ z by omega), decide_eq_true (show z ≤ 10000000 by omega), Bool.true_and, Bool.true_and, Bool.true_and, Bool.true_and, Bool.true_and] at hI2
                          have HI2 := Lib.hid hI2
                          clear hI2
                          go_quiet (fail)
                          go_wp2
                          go_roundg (L - (k + 1))
                          case measure => omega
                          case rel => exact ⟨k + 1, x, by go_num, by omega, by omega, .inr ⟨k, _, rfl, HV.out, rfl⟩, C5.out.drawnN _, below_drawnN B5.out _, HI2⟩
          · have hI := I.out
            rw [List.drop_of_length_le (by rw [← HL.out]; omega), goodB] at hI
            have HB := Lib.hid hb
            obtain ⟨g0, g1, _, _⟩ := hC.two
            clear I hb hC hcase
            subst hI
            go_wp2
            go_ret
            exact ⟨rfl, HB.out⟩
      · rw [decide_eq_false h12, Bool.false_and]
        clear hL
        have t1 : decide (d < 0) = false := decide_eq_false (by omega)
        have t2 : decide (100 < d) = false := decide_eq_false (by omega)
        have t3 : decide (12 < (L : Int)) = true := decide_eq_true (by omega)
        go_enter Try.func18, Try.ntmps18
        go_wp2
        go_ret
        exact ⟨rfl, below_alloc _ _⟩
    · rw [decide_eq_false h2, Bool.false_and, Bool.false_and]
      clear hL
      have t1 : decide (d < 0) = false := decide_eq_false (by omega)
      have t2 : decide (100 < d) = true := decide_eq_true (by omega)
      go_enter Try.func18, Try.ntmps18
      go_wp2
      go_ret
      exact ⟨rfl, below_alloc _ _⟩
  · rw [decide_eq_false h1, Bool.false_and, Bool.false_and, Bool.false_and]
    clear hL
    have t1 : decide (d < 0) = true := decide_eq_true (by omega)
    go_enter Try.func18, Try.ntmps18
    go_wp2
    go_ret
    exact ⟨rfl, below_alloc _ _⟩
end Go.Proofs.Ytjhcdkllneeijaa
