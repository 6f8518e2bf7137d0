/- clock.Valid, At, Before, After. -/
import Derived.Test.YtjhcdkllneeijaaWin
namespace Go.Proofs.Ytjhcdkllneeijaa
open Go.RowKit

theorem good_cons {b : Int} (hb : -1 ≤ b) (x y z : Int) (rs : List Rd) : goodB b ((x, y, z) :: rs) = (decide (b < x) && okT x && okT y && okT z && decide (y ≤ z) && goodB x rs) := by
  unfold okT
  rw [goodB, Bool.eq_iff_iff]
  simp only [Bool.and_eq_true, decide_eq_true_eq]
  constructor
  · rintro ⟨⟨⟨⟨⟨a1, a2⟩, a3⟩, a4⟩, a5⟩, a6⟩
    exact ⟨⟨⟨⟨⟨a1, by omega, a2⟩, a3, by omega⟩, by omega, a5⟩, a4⟩, a6⟩
  · rintro ⟨⟨⟨⟨⟨a1, a2, a3⟩, a4, a5⟩, a6, a7⟩, a8⟩, a9⟩
    exact ⟨⟨⟨⟨⟨a1, a3⟩, a4⟩, a8⟩, a7⟩, a9⟩

set_option maxRecDepth 100000 in
set_option maxHeartbeats 8000000 in
theorem valid_any (d : Int) (rs : List Rd) (A : Option Addr) (c : Nat) (hn : rs.length ≤ 9223372036854775807) (w : World) (hr : Rds w w.heap.size A rs) :
    Calls Try.prog 17 #[clk d A rs.length c] w fun e w' => e = .returned (.bool (validB d rs)) ∧ Below w.heap.size w w' := by
  obtain ⟨L, hL⟩ : ∃ L, L = rs.length := ⟨_, rfl⟩
  have hv : validB d rs = (okD d && decide (L ≤ 12) && goodB (-1) rs) := by rw [hL]; rfl
  rw [hv, ← hL]
  rw [← hL] at hn
  clear hv
  unfold clk
  by_cases hd : okD d = true
  · rw [hd, Bool.true_and]
    by_cases h12 : L ≤ 12
    · rw [decide_eq_true h12, Bool.true_and]
      obtain ⟨G, hG⟩ : ∃ G, G = goodB (-1) rs := ⟨_, rfl⟩
      rw [← hG]
      have HL := Lib.hid hL; have HR := Lib.hid hr; have HG := Lib.hid hG
      clear hL hr hG
      go_enter Try.func17, Try.ntmps17
      go_wp2_with (go_at_call 30; refine (isDrift_any _ _).mono ?_; rintro e w' ⟨rfl, rfl⟩)
      go_loopg [3, 5, 19] L (fun kx s3 s5 s19 wr => ∃ (k : Nat) (b : Int), s3 = .int .i64 b ∧ s19 = .int .i64 (k : Int) ∧ k + kx = L ∧ -1 ≤ b ∧ Row wr w.heap.size 24 #[.int .i64 d, .slice A L c] ∧ Below w.heap.size w wr ∧ Hid (goodB b (rs.drop k) = G))
      case atStart => exact ⟨0, -1, rfl, rfl, by omega, by omega, Row.made _ _ _, below_alloc _ _, Lib.hid HG.out.symm⟩
      case round =>
        obtain ⟨k, b, rfl, rfl, hk, hb1, hC, hb, I⟩ := hrel
        by_cases hlt : k < L
        · obtain ⟨⟨x, y, z⟩, hv⟩ : ∃ y, rs[k]? = some y := ⟨rs[k]'(by rw [← HL.out]; exact hlt), by simp⟩
          obtain ⟨bb, o, hA, hbb, e0, e1, e2⟩ := (HR.out.below hb).at hv
          subst hA
          dsimp only at e0 e1 e2
          have hd' : rs.drop k = (x, y, z) :: rs.drop (k + 1) := by
            obtain ⟨h2, h3⟩ := List.getElem?_eq_some_iff.1 hv
            rw [List.drop_eq_getElem_cons h2, h3]
          have hI := I.out
          rw [hd', good_cons hb1] at hI
          obtain ⟨g0, g1, g2, g3⟩ := hC.two
          have HC := Lib.hid hC; have HB := Lib.hid hb; have HI := Lib.hid hI; have HB1 := Lib.hid hb1
          clear hC hb hI hd' I hv hb1
          by_cases hx : b < x
          · skip
            by_cases ox : okT x = true
            · skip
              by_cases oy : okT y = true
              · skip
                by_cases oz : okT z = true
                · skip
                  by_cases hyz : y ≤ z
                  · skip
                    have hI := HI.out
                    rw [decide_eq_true hx, ox, oy, oz, decide_eq_true hyz, Bool.true_and, Bool.true_and, Bool.true_and, Bool.true_and, Bool.true_and] at hI
                    have HI' := Lib.hid hI
                    clear hI
                    have hxb : -1 ≤ x := by have := HB1.out; omega
                    go_wp2_with (go_at_call 31; refine (isTime_any _ _).mono ?_; rintro e w' ⟨rfl, rfl⟩)
                    go_roundg (L - (k + 1))
                    case measure => omega
                    case rel => exact ⟨k + 1, x, rfl, by go_num, by omega, hxb, HC.out.later _, HB.out.alloc HB.out.size _, HI'⟩
                  · have hG : G = false := by rw [← HI.out, decide_eq_false hyz]; simp
                    have HG' := Lib.hid hG; clear hG
                    go_wp2_with (go_at_call 31; refine (isTime_any _ _).mono ?_; rintro e w' ⟨rfl, rfl⟩)
                    go_ret
                    exact ⟨by rw [HG'.out]; rfl, HB.out.alloc HB.out.size _⟩
                · have oz' : okT z = false := by simpa using oz
                  have hG : G = false := by rw [← HI.out, oz']; simp
                  have HG' := Lib.hid hG; clear hG
                  clear oz
                  go_wp2_with (go_at_call 31; refine (isTime_any _ _).mono ?_; rintro e w' ⟨rfl, rfl⟩)
                  go_ret
                  exact ⟨by rw [HG'.out]; rfl, HB.out.alloc HB.out.size _⟩
              · have oy' : okT y = false := by simpa using oy
                have hG : G = false := by rw [← HI.out, oy']; simp
                have HG' := Lib.hid hG; clear hG
                clear oy
                go_wp2_with (go_at_call 31; refine (isTime_any _ _).mono ?_; rintro e w' ⟨rfl, rfl⟩)
                go_ret
                exact ⟨by rw [HG'.out]; rfl, HB.out.alloc HB.out.size _⟩
            · have ox' : okT x = false := by simpa using ox
              have hG : G = false := by rw [← HI.out, ox']; simp
              have HG' := Lib.hid hG; clear hG
              clear ox
              go_wp2_with (go_at_call 31; refine (isTime_any _ _).mono ?_; rintro e w' ⟨rfl, rfl⟩)
              go_ret
              exact ⟨by rw [HG'.out]; rfl, HB.out.alloc HB.out.size _⟩
          · have hG : G = false := by rw [← HI.out, decide_eq_false hx]; simp
            have HG' := Lib.hid hG; clear hG
            go_wp2_with (go_at_call 31; refine (isTime_any _ _).mono ?_; rintro e w' ⟨rfl, rfl⟩)
            go_ret
            exact ⟨by rw [HG'.out]; rfl, HB.out.alloc HB.out.size _⟩
        · have hI := I.out
          rw [List.drop_of_length_le (by rw [← HL.out]; omega), goodB] at hI
          have HB := Lib.hid hb
          clear I hb hC
          subst hI
          go_wp2
          go_ret
          exact ⟨rfl, HB.out⟩
    · rw [decide_eq_false h12, Bool.false_and]
      clear hL
      go_enter Try.func17, Try.ntmps17
      go_wp2_with (go_at_call 30; refine (isDrift_any _ _).mono ?_; rintro e w' ⟨rfl, rfl⟩)
      go_ret
      exact ⟨rfl, below_alloc _ _⟩
  · have hd' : okD d = false := by simpa using hd
    rw [hd', Bool.false_and, Bool.false_and]
    clear hd hL
    go_enter Try.func17, Try.ntmps17
    go_wp2_with (go_at_call 30; refine (isDrift_any _ _).mono ?_; rintro e w' ⟨rfl, rfl⟩)
    go_ret
    exact ⟨rfl, below_alloc _ _⟩
end Go.Proofs.Ytjhcdkllneeijaa
