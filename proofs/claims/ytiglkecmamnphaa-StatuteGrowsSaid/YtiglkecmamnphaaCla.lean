/- areTerms, isClause. -/
import Derived.Test.YtiglkecmamnphaaQb
namespace Go.Proofs.Ytiglkecmamnphaa
open Go.RowKit

set_option maxRecDepth 100000 in
set_option maxHeartbeats 4000000 in
theorem areTerms_any (l : List Int) (g : Int) (A : Option Addr) (c : Nat) (hn : l.length ≤ Big) (w : World) (hl : Nums w w.heap.size A l) :
    Calls Try.prog 54 #[.slice A l.length c, .int .i64 g] w fun e w' => e = .returned (.bool (termsB l g)) ∧ Below w.heap.size w w' := by
  obtain ⟨L, hL⟩ : ∃ L, L = l.length := ⟨_, rfl⟩
  obtain ⟨R, hR⟩ : ∃ R, R = termsL g (-1) l := ⟨_, rfl⟩
  have ht : termsB l g = (decide (L ≤ 4) && R) := by rw [hL, hR]; rfl
  rw [ht, ← hL]
  rw [← hL] at hn
  have HL := Lib.hid hL; have HR := Lib.hid hR; have HN := Lib.hid hl
  clear ht hL hR hl
  by_cases h4 : L ≤ 4
  · rw [decide_eq_true h4, Bool.true_and]
    go_enter Try.func54, Try.ntmps54
    go_wp2
    go_loopg [5, 7, 13] L (fun kx s5 s7 s13 wr => ∃ (k : Nat) (x : Int), s5 = .int .i64 x ∧ s13 = .int .i64 (k : Int) ∧ k + kx = L ∧ Hid (R = termsL g x (l.drop k)) ∧ wr = w)
    case atStart => exact ⟨0, -1, rfl, rfl, by omega, by simpa using HR, rfl⟩
    case round =>
      obtain ⟨k, x, rfl, rfl, hk, I, hwr⟩ := hrel
      subst hwr
      by_cases hlt : k < L
      · obtain ⟨n, hv⟩ : ∃ y, l[k]? = some y := at_lt (by rw [← HL.out]; exact hlt)
        obtain ⟨bb, o, hA, hbb, e0⟩ := HN.out.at hv
        subst hA
        obtain ⟨p1, p2⟩ := List.getElem?_eq_some_iff.1 hv
        have hI := I.out
        rw [List.drop_eq_getElem_cons p1, p2, termsL] at hI
        by_cases h1 : x < n
        · rw [decide_eq_true h1, Bool.true_and] at hI
          have d1 : decide (n ≤ x) = false := decide_eq_false (by omega)
          by_cases h2 : n < g
          · rw [decide_eq_true h2, Bool.true_and] at hI
            have d2 : decide (n ≥ g) = false := decide_eq_false (by omega)
            have d3 : decide (g ≤ n) = false := decide_eq_false (by omega)
            have HI := Lib.hid hI
            clear hI I hv p1 p2
            go_wp2
            go_roundg (L - (k + 1))
            case measure => omega
            case rel => exact ⟨k + 1, n, rfl, by go_num, by omega, HI, rfl⟩
          · rw [decide_eq_false h2, Bool.false_and] at hI
            have d2 : decide (n ≥ g) = true := decide_eq_true (by omega)
            have d3 : decide (g ≤ n) = true := decide_eq_true (by omega)
            have HI := Lib.hid hI
            clear hI I hv p1 p2
            go_wp2
            go_ret
            exact ⟨by rw [HI.out]; rfl, Below.refl _ _⟩
        · rw [decide_eq_false h1, Bool.false_and, Bool.false_and] at hI
          have d1 : decide (n ≤ x) = true := decide_eq_true (by omega)
          have HI := Lib.hid hI
          clear hI I hv p1 p2
          go_wp2
          go_ret
          exact ⟨by rw [HI.out]; rfl, Below.refl _ _⟩
      · have hI := I.out
        rw [List.drop_of_length_le (by rw [← HL.out]; omega), termsL] at hI
        have HI := Lib.hid hI
        clear hI I
        go_wp2
        go_ret
        exact ⟨by rw [HI.out]; rfl, Below.refl _ _⟩
  · rw [decide_eq_false h4, Bool.false_and]
    go_enter Try.func54, Try.ntmps54
    go_wp2
    go_ret
    exact ⟨rfl, Below.refl _ _⟩

/-- The five tests of a clause, each behind the ones before. -/
theorem five {P : Prop} (b1 b2 b3 b4 b5 : Bool) (h1 : b1 = false → P) (h2 : b1 = true → b2 = false → P) (h3 : b1 = true → b2 = true → b3 = false → P) (h4 : b1 = true → b2 = true → b3 = true → b4 = false → P) (h5 : b1 = true → b2 = true → b3 = true → b4 = true → P) : P := by
  cases b1
  · exact h1 rfl
  · cases b2
    · exact h2 rfl rfl
    · cases b3
      · exact h3 rfl rfl rfl
      · cases b4
        · exact h4 rfl rfl rfl rfl
        · exact h5 rfl rfl rfl rfl

set_option maxRecDepth 100000 in
set_option maxHeartbeats 8000000 in
theorem isClause_any (c : Cls) (NA BA : Option Addr) (nc bc : Nat) (h0 : -9223372036854775808 ≤ c.st) (h9 : c.st ≤ 9223372036854775807) (hn : c.needs.length ≤ Big) (hb : c.bars.length ≤ Big) (w : World) (hN : Nums w w.heap.size NA c.needs) (hB : Nums w w.heap.size BA c.bars) :
    Calls Try.prog 36 #[.agg (clsC c (.slice NA c.needs.length nc) (.slice BA c.bars.length bc))] w fun e w' => e = .returned (.bool (clsB c)) ∧ Below w.heap.size w w' := by
  obtain ⟨pub, sf, st, needs, bars, gives⟩ := c
  dsimp only at *
  have v1 := fun W => isTime_any pub W
  have v2 := fun W => isSpell_any sf st h0 h9 W
  have v3 := fun W => isSaying_any gives W
  have v4 := fun (W : World) (h : Below w.heap.size w W) => areTerms_any needs gives NA nc hn W (hN.deep h)
  have v5 := fun (W : World) (h : Below w.heap.size w W) => areTerms_any bars gives BA bc hb W (hB.deep h)
  unfold clsB clsC
  dsimp only
  generalize timeB pub = b1 at *
  generalize spellB sf st = b2 at *
  generalize sayB gives = b3 at *
  generalize termsB needs gives = b4 at *
  generalize termsB bars gives = b5 at *
  generalize needs.length = L1 at *
  generalize bars.length = L2 at *
  obtain ⟨W1, hW1⟩ : ∃ W1, W1 = w.alloc (.cells #[.int .i64 pub, .int .i64 sf, .int .i64 st, .slice NA L1 nc, .slice BA L2 bc, .int .i64 gives] 51) := ⟨_, rfl⟩
  have hb1 : Below w.heap.size w W1 := by rw [hW1]; exact below_alloc _ _
  obtain ⟨k0, k1, k2, k3, k4, k5⟩ := box6 (by rw [hW1]; exact Row.made w _ _ : Row W1 w.heap.size 51 _)
  have K0 := cell_regrown k0; have K1 := cell_regrown k1; have K2 := cell_regrown k2; have K3 := cell_regrown k3; have K4 := cell_regrown k4; have K5 := cell_regrown k5
  have V1 := Lib.hid v1; have V2 := Lib.hid v2; have V3 := Lib.hid v3; have V4 := Lib.hid v4; have V5 := Lib.hid v5; have HB := Lib.hid hb1
  clear v1 v2 v3 v4 v5 hN hB hn hb h0 h9 k0 k1 k2 k3 k4 k5 hb1
  have hcl := five (P := Calls Try.prog 36 #[.agg #[.int .i64 pub, .int .i64 sf, .int .i64 st, .slice NA L1 nc, .slice BA L2 bc, .int .i64 gives]] w fun e w' => e = .returned (.bool (b1 && b2 && b3 && b4 && b5)) ∧ Below w.heap.size w w') b1 b2 b3 b4 b5
  refine hcl (fun h1 => ?_) (fun h1 h2 => ?_) (fun h1 h2 h3 => ?_) (fun h1 h2 h3 h4 => ?_) (fun h1 h2 h3 h4 => ?_)
  · subst h1
    clear hcl
    go_enter Try.func36, Try.ntmps36
    go_upto_region 1 with (fail)
    rw [← hW1]
    clear hW1
    refine wp_region_quiet_forced ?_
    repeat (go_big_quiet_step (first | (go_at_call 37; with_reducible exact Calls.regrown_of ((V1.out _).mono fun e W h => ⟨h.1, h.2 ▸ Below.refl _ _⟩)) | (go_at_call 40; with_reducible exact Calls.regrown_of (V2.out _)) | (go_at_call 39; with_reducible exact Calls.regrown_of ((V3.out _).mono fun e W h => ⟨h.1, h.2 ▸ Below.refl _ _⟩)) | (go_at_call 54; with_reducible exact Calls.regrown_of (V4.out _ (below_step HB.out (below_regrown _ _ _)))) | (go_at_call 54; with_reducible exact Calls.regrown_of (V5.out _ (below_step HB.out (below_regrown _ _ _)))) | fail))
    refine wpQuiet_nil ?_; intro _ hw'; obtain ⟨⟨dq, osq⟩, hw''⟩ := hw'; subst hw''
    go_wp2
    go_ret
    exact ⟨by simp, below_step HB.out (below_regrown _ _ _)⟩
  · subst h1 h2
    clear hcl
    go_enter Try.func36, Try.ntmps36
    go_upto_region 1 with (fail)
    rw [← hW1]
    clear hW1
    refine wp_region_quiet_forced ?_
    repeat (go_big_quiet_step (first | (go_at_call 37; with_reducible exact Calls.regrown_of ((V1.out _).mono fun e W h => ⟨h.1, h.2 ▸ Below.refl _ _⟩)) | (go_at_call 40; with_reducible exact Calls.regrown_of (V2.out _)) | (go_at_call 39; with_reducible exact Calls.regrown_of ((V3.out _).mono fun e W h => ⟨h.1, h.2 ▸ Below.refl _ _⟩)) | (go_at_call 54; with_reducible exact Calls.regrown_of (V4.out _ (below_step HB.out (below_regrown _ _ _)))) | (go_at_call 54; with_reducible exact Calls.regrown_of (V5.out _ (below_step HB.out (below_regrown _ _ _)))) | fail))
    refine wpQuiet_nil ?_; intro _ hw'; obtain ⟨⟨dq, osq⟩, hw''⟩ := hw'; subst hw''
    go_wp2
    go_ret
    exact ⟨by simp, below_step HB.out (below_regrown _ _ _)⟩
  · subst h1 h2 h3
    clear hcl
    go_enter Try.func36, Try.ntmps36
    go_upto_region 1 with (fail)
    rw [← hW1]
    clear hW1
    refine wp_region_quiet_forced ?_
    repeat (go_big_quiet_step (first | (go_at_call 37; with_reducible exact Calls.regrown_of ((V1.out _).mono fun e W h => ⟨h.1, h.2 ▸ Below.refl _ _⟩)) | (go_at_call 40; with_reducible exact Calls.regrown_of (V2.out _)) | (go_at_call 39; with_reducible exact Calls.regrown_of ((V3.out _).mono fun e W h => ⟨h.1, h.2 ▸ Below.refl _ _⟩)) | (go_at_call 54; with_reducible exact Calls.regrown_of (V4.out _ (below_step HB.out (below_regrown _ _ _)))) | (go_at_call 54; with_reducible exact Calls.regrown_of (V5.out _ (below_step HB.out (below_regrown _ _ _)))) | fail))
    refine wpQuiet_nil ?_; intro _ hw'; obtain ⟨⟨dq, osq⟩, hw''⟩ := hw'; subst hw''
    go_wp2
    go_ret
    exact ⟨by simp, below_step HB.out (below_regrown _ _ _)⟩
  · subst h1 h2 h3 h4
    clear hcl
    go_enter Try.func36, Try.ntmps36
    go_upto_region 1 with (fail)
    rw [← hW1]
    clear hW1
    refine wp_region_quiet_forced ?_
    repeat (go_big_quiet_step (first | (go_at_call 37; with_reducible exact Calls.regrown_of ((V1.out _).mono fun e W h => ⟨h.1, h.2 ▸ Below.refl _ _⟩)) | (go_at_call 40; with_reducible exact Calls.regrown_of (V2.out _)) | (go_at_call 39; with_reducible exact Calls.regrown_of ((V3.out _).mono fun e W h => ⟨h.1, h.2 ▸ Below.refl _ _⟩)) | (go_at_call 54; with_reducible exact Calls.regrown_of (V4.out _ (below_step HB.out (below_regrown _ _ _)))) | (go_at_call 54; with_reducible exact Calls.regrown_of (V5.out _ (below_step HB.out (below_regrown _ _ _)))) | fail))
    refine wpQuiet_nil ?_; intro _ hw'; obtain ⟨⟨dq, osq⟩, hw''⟩ := hw'; subst hw''
    go_wp2
    go_ret
    exact ⟨by simp, below_step HB.out (below_regrown _ _ _)⟩
  · subst h1 h2 h3 h4
    clear hcl
    go_enter Try.func36, Try.ntmps36
    go_upto_region 1 with (fail)
    rw [← hW1]
    clear hW1
    refine wp_region_quiet_forced ?_
    repeat (go_big_quiet_step (first | (go_at_call 37; with_reducible exact Calls.regrown_of ((V1.out _).mono fun e W h => ⟨h.1, h.2 ▸ Below.refl _ _⟩)) | (go_at_call 40; with_reducible exact Calls.regrown_of (V2.out _)) | (go_at_call 39; with_reducible exact Calls.regrown_of ((V3.out _).mono fun e W h => ⟨h.1, h.2 ▸ Below.refl _ _⟩)) | (go_at_call 54; with_reducible exact Calls.regrown_of (V4.out _ (below_step HB.out (below_regrown _ _ _)))) | (go_at_call 54; with_reducible exact Calls.regrown_of (V5.out _ (below_step HB.out (below_regrown _ _ _)))) | fail))
    refine wpQuiet_nil ?_; intro _ hw'; obtain ⟨⟨dq, osq⟩, hw''⟩ := hw'; subst hw''
    go_wp2
    go_ret
    exact ⟨by simp, below_step HB.out (below_regrown _ _ _)⟩
end Go.Proofs.Ytiglkecmamnphaa
