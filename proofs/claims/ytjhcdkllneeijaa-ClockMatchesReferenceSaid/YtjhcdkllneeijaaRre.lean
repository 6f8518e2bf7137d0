/- The reference's Reads. -/
import Derived.Test.YtjhcdkllneeijaaRbo
namespace Go.Proofs.Ytjhcdkllneeijaa
open Go.RowKit

set_option maxRecDepth 100000 in
set_option maxHeartbeats 16000000 in
theorem rreads_any (d : Int) (rs : List Rd) (A : Option Addr) (c : Nat) (t : Int) (hn : rs.length ≤ 9223372036854775807) (w : World) (hr : Rds w w.heap.size A rs) :
    Calls Try.prog 23 #[clk d A rs.length c, .int .i64 t] w fun e w' => e = .returned (.tuple #[.int .i64 (readsS d rs t).1, .int .i64 (readsS d rs t).2.1, .int .i64 (readsS d rs t).2.2]) ∧ Below w.heap.size w w' := by
  obtain ⟨L, hL⟩ : ∃ L, L = rs.length := ⟨_, rfl⟩
  have hv := fun (W : World) (h : Below w.heap.size w W) => rvalid_any d rs A c hn W (hr.deep h)
  have ha : readsS d rs t = if validB d rs = true ∧ okT t = true ∧ fstN d rs t < endN d rs t then ((fstN d rs t : Int), (endN d rs t : Int) - 1, 0) else (0, 0, 50) := rfl
  by_cases h1 : validB d rs = true
  · obtain ⟨d0, d1, h12, hg⟩ := gB h1
    by_cases h2 : 0 ≤ t
    · by_cases h22 : t ≤ 10000000
      · have hs := fun (m : Nat) (hm : m ≤ 10000000) (W : World) (h : Below w.heap.size w W) => bounds_any d rs A c (m : Int) d0 d1 (by omega) (by omega) hg h12 W (hr.deep h)
        have hf := fun (m : Nat) (hm : m ≤ 10000000) => fst_iff d0 d1 rs t (l := m) hm
        have he := fun (m : Nat) (hm : m ≤ 10000000) => end_iff d0 d1 rs t (l := m) hm
        have e1 := end_le d0 d1 rs t
        have e2 := fst_le d0 d1 rs t
        rw [← hL] at hs hv ⊢
        rw [h1] at hv
        have t1 : decide (t < 0) = false := decide_eq_false (by omega)
        have t2 : decide (10000000 < t) = false := decide_eq_false (by omega)
        have hR : readsS d rs t = if fstN d rs t < endN d rs t then ((fstN d rs t : Int), (endN d rs t : Int) - 1, 0) else (0, 0, 50) := by
          rw [ha]
          by_cases h3 : fstN d rs t < endN d rs t
          · rw [if_pos ⟨h1, okT_iff.2 ⟨h2, h22⟩, h3⟩, if_pos h3]
          · rw [if_neg (fun h => h3 h.2.2), if_neg h3]
        rw [hR]
        generalize fstN d rs t = f at *
        generalize endN d rs t = g at *
        obtain ⟨z1, z2, z3, hz, hA, hB⟩ : ∃ z1 z2 z3 : Int, (if f < g then ((f : Int), (g : Int) - 1, (0 : Int)) else (0, 0, 50)) = (z1, z2, z3) ∧ (f < g → (f : Int) = z1 ∧ (g : Int) - 1 = z2 ∧ (0 : Int) = z3) ∧ (¬ f < g → (0 : Int) = z1 ∧ (0 : Int) = z2 ∧ (50 : Int) = z3) := by
          by_cases h3 : f < g
          · exact ⟨_, _, _, if_pos h3, fun _ => ⟨rfl, rfl, rfl⟩, fun h => absurd h3 h⟩
          · exact ⟨_, _, _, if_neg h3, fun h => absurd h h3, fun _ => ⟨rfl, rfl, rfl⟩⟩
        rw [hz]
        dsimp only
        have HA := Lib.hid hA; have HBB := Lib.hid hB
        clear hz hA hB
        have HV := Lib.hid hv; have HS := Lib.hid hs; have HF := Lib.hid hf; have HE := Lib.hid he
        clear hv hs hf he ha h1 hr hL hg hn hR
        unfold clk at HV HS ⊢
        go_enter Try.func23, Try.ntmps23
        go_wp2_with (go_at_call 18; (refine (HV.out _ (below_alloc _ _)).mono ?_); rintro e w2 ⟨rfl, b2⟩; have R2 := Lib.hid (show Row w2 w.heap.size 24 #[.int .i64 d, .slice A L c] from Row.below (Row.made _ _ _) b2 (by simp)); have B2 := Lib.hid (below_step (below_alloc _ _) b2); clear b2)
        go_loopg [7, 8, 9, 10, 11] 10000001 (fun kx s7 s8 s9 s10 s11 wr => ∃ (lo hi : Nat), s7 = .int .i64 (lo : Int) ∧ s8 = .int .i64 (hi : Int) ∧ lo ≤ f ∧ f ≤ hi ∧ hi ≤ 10000001 ∧ hi - lo ≤ kx ∧ Row wr w.heap.size 24 #[.int .i64 d, .slice A L c] ∧ Below w.heap.size w wr)
        case atStart => exact ⟨0, 10000001, rfl, rfl, by omega, e2, by omega, by omega, R2.out, B2.out⟩
        case round =>
          obtain ⟨lo, hi, rfl, rfl, a1, a2, a3, a4, hC, hb⟩ := hrel
          by_cases hlt : lo < hi
          · obtain ⟨g0, g1, g2, g3⟩ := hC.two
            have hq : ((lo : Int) + (hi : Int)).tdiv 2 = (((lo + hi) / 2 : Nat) : Int) := by rw [Int.tdiv_eq_ediv_of_nonneg (by omega)]; omega
            have hm0 : lo ≤ (lo + hi) / 2 ∧ (lo + hi) / 2 < hi := by omega
            have hc := HS.out ((lo + hi) / 2) (by omega)
            have hi2 := HF.out ((lo + hi) / 2) (by omega)
            generalize (lo + hi) / 2 = m at *
            generalize (win d rs (m : Int)).1 = x at *
            generalize (win d rs (m : Int)).2 = y at *
            have HC := Lib.hid hC; have HB := Lib.hid hb; have HS2 := Lib.hid hc
            clear hC hb hc
            by_cases hy : t ≤ y
            · have hfm := hi2.2 hy
              clear hi2
              go_wp2_with (go_at_call 37; (with_reducible refine (HS2.out _ HB.out).mono ?_); rintro e w3 ⟨rfl, b3⟩; have R3 := Lib.hid (Row.below HC.out b3 HC.out.inside); have B3 := Lib.hid (below_step HB.out b3); clear b3)
              go_roundg (m - lo)
              case measure => omega
              case rel => exact ⟨lo, m, rfl, rfl, a1, hfm, by omega, Nat.le_refl _, R3.out, B3.out⟩
            · have hfm : m < f := Nat.lt_of_not_le (fun h => hy (hi2.1 h))
              clear hi2
              go_wp2_with (go_at_call 37; (with_reducible refine (HS2.out _ HB.out).mono ?_); rintro e w3 ⟨rfl, b3⟩; have R3 := Lib.hid (Row.below HC.out b3 HC.out.inside); have B3 := Lib.hid (below_step HB.out b3); clear b3)
              go_roundg (hi - (m + 1))
              case measure => omega
              case rel => exact ⟨m + 1, hi, by go_num, rfl, hfm, a2, a3, by omega, R3.out, B3.out⟩
          · obtain rfl : lo = hi := by omega
            obtain rfl : lo = f := by omega
            have HC := Lib.hid hC; have HB := Lib.hid hb
            clear hC hb a1 a2 a4
            go_wp2
            go_loopg [8, 12, 13, 14, 15] 10000001 (fun kx s8 s12 s13 s14 s15 wr' => ∃ (a hi : Nat), s12 = .int .i64 ((a : Int) - 1) ∧ s8 = .int .i64 (hi : Int) ∧ a ≤ g ∧ g ≤ hi ∧ hi ≤ 10000001 ∧ hi - a ≤ kx ∧ Row wr' w.heap.size 24 #[.int .i64 d, .slice A L c] ∧ Below w.heap.size w wr')
            case atStart => exact ⟨0, 10000001, rfl, rfl, by omega, e1, by omega, by omega, HC.out, HB.out⟩
            case round =>
              clear HC HB
              obtain ⟨a, hi, rfl, rfl, a1, a2, a3, a4, hC, hb⟩ := hrel
              have hone : (a : Int) - 1 + 1 = (a : Int) := by omega
              by_cases hlt : a < hi
              · obtain ⟨g0, g1, g2, g3⟩ := hC.two
                have hq : ((a : Int) - 1 + (hi : Int)).tdiv 2 = (((a + hi - 1) / 2 : Nat) : Int) := by rw [Int.tdiv_eq_ediv_of_nonneg (by omega)]; omega
                have hm0 : a ≤ (a + hi - 1) / 2 ∧ (a + hi - 1) / 2 < hi := by omega
                have hc := HS.out ((a + hi - 1) / 2) (by omega)
                have hi2 := HE.out ((a + hi - 1) / 2) (by omega)
                generalize (a + hi - 1) / 2 = m at *
                generalize (win d rs (m : Int)).1 = x at *
                generalize (win d rs (m : Int)).2 = y at *
                have HC := Lib.hid hC; have HB := Lib.hid hb; have HS2 := Lib.hid hc
                clear hC hb hc
                by_cases hy : x ≤ t
                · have hfm := hi2.2 hy
                  clear hi2
                  go_wp2_with (go_at_call 37; (with_reducible refine (HS2.out _ HB.out).mono ?_); rintro e w3 ⟨rfl, b3⟩; have R3 := Lib.hid (Row.below HC.out b3 HC.out.inside); have B3 := Lib.hid (below_step HB.out b3); clear b3)
                  go_roundg (hi - (m + 1))
                  case measure => omega
                  case rel => exact ⟨m + 1, hi, by rw [show (((m + 1 : Nat) : Int) - 1) = (m : Int) by omega], rfl, hfm, a2, a3, by omega, R3.out, B3.out⟩
                · have hfm : g ≤ m := Nat.le_of_not_lt (fun h => hy (hi2.1 h))
                  clear hi2
                  go_wp2_with (go_at_call 37; (with_reducible refine (HS2.out _ HB.out).mono ?_); rintro e w3 ⟨rfl, b3⟩; have R3 := Lib.hid (Row.below HC.out b3 HC.out.inside); have B3 := Lib.hid (below_step HB.out b3); clear b3)
                  go_roundg (m - a)
                  case measure => omega
                  case rel => exact ⟨a, m, rfl, rfl, a1, hfm, by omega, Nat.le_refl _, R3.out, B3.out⟩
              · obtain rfl : a = hi := by omega
                obtain rfl : a = g := by omega
                have HB := Lib.hid hb
                clear hC hb a1 a2 a4
                by_cases hfg : lo < a
                · obtain ⟨u1, u2, u3⟩ := HA.out hfg
                  have U1 := Lib.hid u1; have U2 := Lib.hid u2; have U3 := Lib.hid u3
                  clear u1 u2 u3
                  have hz : decide ((a : Int) - 1 < (lo : Int)) = false := decide_eq_false (by omega)
                  go_wp2
                  go_ret3
                  exact ⟨by rw [← U1.out, ← U2.out, ← U3.out]; rfl, HB.out⟩
                · obtain ⟨u1, u2, u3⟩ := HBB.out hfg
                  have U1 := Lib.hid u1; have U2 := Lib.hid u2; have U3 := Lib.hid u3
                  clear u1 u2 u3
                  have hz : decide ((a : Int) - 1 < (lo : Int)) = true := decide_eq_true (by omega)
                  go_wp2
                  go_ret3
                  exact ⟨by rw [← U1.out, ← U2.out, ← U3.out]; rfl, HB.out⟩
      · rw [if_neg (fun h => h22 (okT_iff.1 h.2.1).2)] at ha
        rw [← hL] at hv ⊢
        rw [h1] at hv
        rw [ha]
        dsimp only
        have t1 : decide (t < 0) = false := decide_eq_false (by omega)
        have t2 : decide (10000000 < t) = true := decide_eq_true (by omega)
        have HV := Lib.hid hv
        clear hv ha h1 hr hL hg hn
        unfold clk at HV ⊢
        go_enter Try.func23, Try.ntmps23
        go_wp2_with (go_at_call 18; (refine (HV.out _ (below_alloc _ _)).mono ?_); rintro e w2 ⟨rfl, b2⟩; have B2 := Lib.hid (below_step (below_alloc _ _) b2); clear b2)
        go_ret3
        exact ⟨rfl, B2.out⟩
    · rw [if_neg (fun h => h2 (okT_iff.1 h.2.1).1)] at ha
      rw [← hL] at hv ⊢
      rw [h1] at hv
      rw [ha]
      dsimp only
      have t1 : decide (t < 0) = true := decide_eq_true (by omega)
      have HV := Lib.hid hv
      clear hv ha h1 hr hL hg hn
      unfold clk at HV ⊢
      go_enter Try.func23, Try.ntmps23
      go_wp2_with (go_at_call 18; (refine (HV.out _ (below_alloc _ _)).mono ?_); rintro e w2 ⟨rfl, b2⟩; have B2 := Lib.hid (below_step (below_alloc _ _) b2); clear b2)
      go_ret3
      exact ⟨rfl, B2.out⟩
  · rw [if_neg (fun h => h1 h.1)] at ha
    rw [← hL] at hv ⊢
    rw [bnot h1] at hv
    rw [ha]
    dsimp only
    have HV := Lib.hid hv
    clear hv ha h1 hr hL hn
    unfold clk at HV ⊢
    go_enter Try.func23, Try.ntmps23
    go_wp2_with (go_at_call 18; (refine (HV.out _ (below_alloc _ _)).mono ?_); rintro e w2 ⟨rfl, b2⟩; have B2 := Lib.hid (below_step (below_alloc _ _) b2); clear b2)
    go_ret3
    exact ⟨rfl, B2.out⟩
end Go.Proofs.Ytjhcdkllneeijaa
