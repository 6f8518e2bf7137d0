/- repealed; saying, giving. -/
import Derived.Test.YtiglkecmamnphaaIdx
namespace Go.Proofs.Ytiglkecmamnphaa
open Go.RowKit Go.Sort Go.Lib

theorem own_ints {w : World} {B n cap : Nat} {e : TypeId} {A : Option Addr} {xs : List Int} (hn : n = xs.length) (h : w.ownsRow B e 1 (.slice A n cap) n (iC xs)) : Nums w w.heap.size A xs := by
  rcases h.2 with ⟨_, h0⟩ | ⟨g, cap', cur, hv, hB, hg, hcap, _, _, ht⟩
  · left
    exact List.eq_nil_of_length_eq_zero (by omega)
  · right
    cases hv
    refine ⟨g, 0, rfl, ?_, fun i r hr => ?_⟩
    · rcases Nat.lt_or_ge g w.heap.size with k | k
      · exact k
      · rw [Array.getElem?_eq_none k] at hg; cases hg
    · have hc := h.cellAt i (by
        obtain ⟨h1, _⟩ := List.getElem?_eq_some_iff.1 hr
        omega)
      rw [Nat.zero_add]
      rw [hc, List.getElem?_map, hr]
      rfl
theorem own_V {w : World} {B : Nat} {e : TypeId} {v : Value} {xs : List Int} (h : w.ownsRow B e 1 v xs.length (iC xs)) (hx : xs.length ≤ Big) : IntsV w w.heap.size v xs := by
  rcases h.2 with ⟨rfl, h0⟩ | ⟨g, cap', cur, rfl, hB, hg, hcap, _, _, ht⟩
  · have : xs = [] := List.eq_nil_of_length_eq_zero h0
    subst this
    exact IntsV.nil _ _
  · exact ⟨_, _, rfl, hx, own_ints rfl h⟩
theorem own_row3 {X : World} {base g k : Nat} {t e : TypeId} {s : Nat} {v : Value} {xs : List Value} {C : Array Value} (h : X.ownsRow base e s v k xs) (hr : Row X g t C) (hne : t ≠ e) : some g ≠ v.ownBlock := by
  intro e'
  rcases h.2 with ⟨rfl, _⟩ | ⟨g', cap, cur, rfl, _, hg, _⟩
  · simp [Value.ownBlock] at e'
  · have e2 : g = g' := by simpa [Value.ownBlock] using e'
    subst e2
    rw [show X.heap[g]? = _ from hr] at hg
    injection hg with hg
    injection hg with _ hg _
    exact hne hg
theorem grown_set (W : World) (b o : Nat) (v : Value) : W.grownBy (W.setCell ⟨b, o, none⟩ v) (some b) := ⟨rfl, rfl, rfl, by simp, fun i _ hne => heap_setCell_other W ⟨b, o, none⟩ i v (fun e => hne (by rw [e]))⟩
theorem range_up (k : Nat) : Up ((List.range k).map Int.ofNat) := by
  induction k with
  | zero => exact List.Pairwise.nil
  | succ k ih =>
    rw [List.range_succ, List.map_append]
    unfold Up
    rw [List.pairwise_append]
    refine ⟨ih, List.pairwise_singleton .., fun a ha b hb => ?_⟩
    obtain ⟨i, hi, rfl⟩ := List.mem_map.1 ha
    rw [List.map_singleton, List.mem_singleton] at hb
    subst hb
    have := List.mem_range.1 hi
    show (i : Int) < (k : Int)
    omega
theorem up_aF (b : Bk) (q : Qn) : Up (aF b q) := up_filter (range_up _) _
theorem up_aC (b : Bk) (q : Qn) : Up (aC b q) := up_filter (range_up _) _
theorem len_aF (b : Bk) (q : Qn) : (aF b q).length ≤ b.fct.length := by
  unfold aF aFk
  refine Nat.le_trans (List.length_filter_le _ _) ?_
  simp
theorem len_aC (b : Bk) (q : Qn) : (aC b q).length ≤ b.cls.length := by
  unfold aC aCk
  refine Nat.le_trans (List.length_filter_le _ _) ?_
  simp

set_option maxRecDepth 100000 in
set_option maxHeartbeats 8000000 in
theorem repealed1_any (x : Rpl) (q : Qn) (i : Int) (gi gq : Nat) (W : World) (hi : W.cell? ⟨gi, 0, none⟩ = some (.int .i64 i)) (hq : Row W gq 37 (qnC q)) :
    Calls Try.prog 56 #[.agg (rplC x), .pointer (some ⟨gi, 0, none⟩), .pointer (some ⟨gq, 0, none⟩)] W fun e w' => e = .returned (.bool (rplA q i x)) ∧ Below W.heap.size W w' := by
  obtain ⟨xc, xp, xf⟩ := x
  obtain ⟨th, sy, tm, kn⟩ := q
  unfold rplA rplC
  unfold qnC at hq
  dsimp only at hq ⊢
  have d1 : (xc == i) = decide (xc = i) := by by_cases h : xc = i <;> simp [h]
  obtain ⟨W1, hW1⟩ : ∃ W1, W1 = W.alloc (.cells #[.int .i64 xc, .int .i64 xp, .int .i64 xf] 55) := ⟨_, rfl⟩
  have hb1 : Below W.heap.size W W1 := by rw [hW1]; exact below_alloc _ _
  obtain ⟨m0, m1, m2, _, _, _⟩ := (by rw [hW1]; exact Row.made W _ _ : Row W1 W.heap.size 55 _).three
  obtain ⟨_, _, k2, k3⟩ := box4 (by rw [hW1]; exact hq.later _ : Row W1 gq 37 _)
  have k0 : W1.cell? ⟨gi, 0, none⟩ = some (.int .i64 i) := (hb1.cell (p := ⟨gi, 0, none⟩) (World.block_lt_of_cell? _ _ hi)).trans hi
  have K0 := cell_regrown k0; have K2 := cell_regrown k2; have K3 := cell_regrown k3; have M0 := cell_regrown m0; have M1 := cell_regrown m1; have M2 := cell_regrown m2
  have HB := Lib.hid hb1
  clear k0 k2 k3 m0 m1 m2 hb1 hi hq
  generalize decide (xc = i) = b1 at *
  generalize hd2 : decide (xp ≤ kn) = b2 at *
  generalize hd3 : decide (xf ≤ tm) = b3 at *
  refine fourw b1 b2 b3 true (fun h1 => ?_) (fun h1 h2 => ?_) (fun h1 h2 h3 => ?_) (fun h1 h2 h3 h4 => ?_) (fun h1 h2 h3 h4 => ?_)
  · subst h1
    go_enter Try.func56, Try.ntmps56
    go_upto_region 1 with (fail)
    rw [← hW1]
    clear hW1
    refine wp_region_quiet_forced ?_
    repeat (go_big_quiet_step (first | (fail) | fail))
    refine wpQuiet_nil ?_; intro _ hw'; obtain ⟨⟨dq, osq⟩, hw''⟩ := hw'; subst hw''
    go_wp2
    go_ret
    exact ⟨by simp, below_step HB.out (below_regrown _ _ _)⟩
  · subst h1 h2
    go_enter Try.func56, Try.ntmps56
    go_upto_region 1 with (fail)
    rw [← hW1]
    clear hW1
    refine wp_region_quiet_forced ?_
    repeat (go_big_quiet_step (first | (fail) | fail))
    refine wpQuiet_nil ?_; intro _ hw'; obtain ⟨⟨dq, osq⟩, hw''⟩ := hw'; subst hw''
    go_wp2
    go_ret
    exact ⟨by simp, below_step HB.out (below_regrown _ _ _)⟩
  · subst h1 h2 h3
    go_enter Try.func56, Try.ntmps56
    go_upto_region 1 with (fail)
    rw [← hW1]
    clear hW1
    refine wp_region_quiet_forced ?_
    repeat (go_big_quiet_step (first | (fail) | fail))
    refine wpQuiet_nil ?_; intro _ hw'; obtain ⟨⟨dq, osq⟩, hw''⟩ := hw'; subst hw''
    go_wp2
    go_ret
    exact ⟨by simp, below_step HB.out (below_regrown _ _ _)⟩
  · cases h4
  · clear h4; subst h1 h2 h3
    go_enter Try.func56, Try.ntmps56
    go_upto_region 1 with (fail)
    rw [← hW1]
    clear hW1
    refine wp_region_quiet_forced ?_
    repeat (go_big_quiet_step (first | (fail) | fail))
    refine wpQuiet_nil ?_; intro _ hw'; obtain ⟨⟨dq, osq⟩, hw''⟩ := hw'; subst hw''
    go_wp2
    go_ret
    exact ⟨by simp, below_step HB.out (below_regrown _ _ _)⟩

set_option maxRecDepth 100000 in
set_option maxHeartbeats 8000000 in
theorem repealed_any (b : Bk) (q : Qn) (i : Int) (cv rv fv : Value) (w : World) (hw : BkV w w.heap.size cv rv fv b) :
    Calls Try.prog 42 #[.agg #[cv, rv, fv], .int .i64 i, .agg (qnC q)] w fun e w' => e = .returned (.bool (repB b q i)) ∧ Below w.heap.size w w' := by
  obtain ⟨RA, rc, rfl, hr9, hr⟩ := hw.2.1.rpl
  obtain ⟨W1, hW1⟩ : ∃ W1, W1 = ((w.alloc (.cells #[cv, .slice RA b.rpl.length rc, fv] 34)).alloc (.cells #[.int .i64 i] 3)).alloc (.cells (qnC q) 37) := ⟨_, rfl⟩
  have hb1 : Below w.heap.size w W1 := by rw [hW1]; exact keep_alloc (keep_alloc (below_alloc _ _) _) _
  have r1 : Row W1 w.heap.size 34 #[cv, .slice RA b.rpl.length rc, fv] := by rw [hW1]; exact ((Row.made w _ _).later _).later _
  have r2 : Row W1 (w.heap.size + 1) 3 #[.int .i64 i] := by rw [hW1]; exact (Row.made_at _ _ _ (by simp)).later _
  have r3 : Row W1 (w.heap.size + 1 + 1) 37 (qnC q) := by rw [hW1]; exact Row.made_at _ _ _ (by simp)
  have hc := conR b.rpl RA rc 56 #[.pointer (some ⟨w.heap.size + 1, 0, none⟩), .pointer (some ⟨w.heap.size + 1 + 1, 0, none⟩)] (enters_of Try.func56 (by kernel_rfl) rfl) hr9
    (fun k W => Below W1.heap.size W1 W ∧ (b.rpl.take k).any (rplA q i) = false) (fun W => Below W1.heap.size W1 W ∧ repB b q i = true) W1
    (fun j x hx => by
      obtain ⟨bb, o, hA, hbb, e0, e1, e2⟩ := hr j x hx
      exact ⟨bb, o, hA, Nat.lt_of_lt_of_le hbb hb1.size, (hb1.cell (p := ⟨bb, o + j * 3, none⟩) hbb).trans e0, (hb1.cell (p := ⟨bb, o + j * 3 + 1, none⟩) hbb).trans e1, (hb1.cell (p := ⟨bb, o + j * 3 + 2, none⟩) hbb).trans e2⟩)
    (fun _ _ h => h.1) ⟨Below.refl _ _, by simp⟩ (fun k x W hx hJ => (repealed1_any x q i _ _ W ((Row.step r2 hJ.1).at rfl) (Row.step r3 hJ.1)).mono fun e w' h => ⟨_, h.1, fun hb => ⟨below_step hJ.1 h.2, List.any_eq_true.2 ⟨x, List.mem_of_getElem? hx, hb⟩⟩, fun hb => ⟨below_step hJ.1 h.2, by rw [List.take_add_one, hx, List.any_append, hJ.2]; simp [hb]⟩⟩)
  have HC := Lib.hid hc; have HB := Lib.hid hb1
  obtain ⟨k0, k1, k2, _, _, _⟩ := r1.three
  clear hc hb1 r1 r2 r3 hr hw
  unfold qnC at *
  obtain ⟨L, hL⟩ : ∃ L, L = b.rpl.length := ⟨_, rfl⟩
  rw [← hL] at HC hW1 k1 ⊢
  have HL := Lib.hid hL
  clear hL hr9
  go_enter Try.func42, Try.ntmps42
  go_upto_region 1 with (fail)
  rw [← hW1]
  clear hW1
  go_wp2_with (first | (go_at_call 55; (with_reducible refine HC.out.mono ?_); rintro e w2 ⟨r, rfl, h1, h2⟩; have H1 := Lib.hid h1; have H2 := Lib.hid h2; clear h1 h2) | fail)
  go_ret
  cases r
  · obtain ⟨hb, hf⟩ := H2.out rfl
    refine ⟨?_, below_step HB.out hb⟩
    unfold repB
    rw [List.take_of_length_le (by rw [← HL.out]; exact Nat.le_refl _)] at hf
    rw [hf]
    rfl
  · obtain ⟨hb, hf⟩ := H1.out rfl
    exact ⟨by rw [hf]; rfl, below_step HB.out hb⟩
end Go.Proofs.Ytiglkecmamnphaa
