/- Sums, differences and products of numbers. -/
import Derived.Test.YtnehkoedmcnjoaaGreatDoorNumB
namespace Go.Proofs.YtnehkoedmcnjoaaGreatDoor
open Go.RowKit

theorem sign_zero {x : Int} (h : decide (x < 0) = true) : 0 < x.natAbs := by simp at h; omega
theorem nplus_any (x y : Int) (A1 A2 : Option Addr) (L1 c1 L2 c2 : Nat) (m1 : L1 ≤ 300) (m2 : L2 ≤ 300) (w : World) (h1 : Nt w w.heap.size A1 L1 c1 x.natAbs) (h2 : Nt w w.heap.size A2 L2 c2 y.natAbs) :
    Calls Tryz.prog 29 #[.agg #[.bool (decide (x < 0)), .slice A1 L1 c1], .agg #[.bool (decide (y < 0)), .slice A2 L2 c2]] w fun e w' => ∃ A L c, e = .returned (.agg #[.bool (decide (x + y < 0)), .slice A L c]) ∧ Nt w' w'.heap.size A L c (x + y).natAbs ∧ Below w.heap.size w w' := by
  by_cases hs : decide (x < 0) = decide (y < 0)
  · have hc := nplus_same (decide (x < 0)) A1 A2 L1 c1 _ L2 c2 _ m1 m2 w h1 h2
    rw [hs] at hc ⊢
    rw [show decide (x + y < 0) = decide (y < 0) by rw [decide_eq_decide] at hs ⊢; omega, show (x + y).natAbs = x.natAbs + y.natAbs by rw [decide_eq_decide] at hs; omega]
    exact hc
  · have hn : decide (y < 0) = !decide (x < 0) := by cases h3 : decide (x < 0) <;> cases h4 : decide (y < 0) <;> simp_all
    rw [hn]
    have hn2 : (y < 0) ↔ ¬ x < 0 := by
      have := hn
      simp only [← decide_not, decide_eq_decide] at this
      exact this
    by_cases hle : y.natAbs ≤ x.natAbs
    · have hc := nplus_ge (decide (x < 0)) A1 A2 L1 c1 _ L2 c2 _ m1 m2 hle w h1 h2
      rw [show decide (x + y < 0) = (decide (x < 0) && decide (0 < x.natAbs - y.natAbs)) by
        rw [Bool.eq_iff_iff]; simp only [Bool.and_eq_true, decide_eq_true_eq]; omega, show (x + y).natAbs = x.natAbs - y.natAbs by omega]
      exact hc
    · have hc := nplus_lt (decide (x < 0)) A1 A2 L1 c1 _ L2 c2 _ m1 m2 (by omega) w h1 h2
      rw [show decide (x + y < 0) = (!decide (x < 0)) by rw [Bool.eq_iff_iff]; simp; omega, show (x + y).natAbs = y.natAbs - x.natAbs by omega]
      exact hc

set_option maxRecDepth 100000 in
set_option maxHeartbeats 8000000 in
theorem nminus_any (x y : Int) (A1 A2 : Option Addr) (L1 c1 L2 c2 : Nat) (m1 : L1 ≤ 300) (m2 : L2 ≤ 300) (w : World) (h1 : Nt w w.heap.size A1 L1 c1 x.natAbs) (h2 : Nt w w.heap.size A2 L2 c2 y.natAbs) :
    Calls Tryz.prog 32 #[.agg #[.bool (decide (x < 0)), .slice A1 L1 c1], .agg #[.bool (decide (y < 0)), .slice A2 L2 c2]] w fun e w' => ∃ A L c, e = .returned (.agg #[.bool (decide (x - y < 0)), .slice A L c]) ∧ Nt w' w'.heap.size A L c (x - y).natAbs ∧ Below w.heap.size w w' := by
  obtain ⟨s, hs1⟩ : ∃ s, s = decide (x < 0) := ⟨_, rfl⟩
  obtain ⟨t, ht1⟩ : ∃ t, t = decide (y < 0) := ⟨_, rfl⟩
  obtain ⟨u, hu1⟩ : ∃ u, u = decide (-y < 0) := ⟨_, rfl⟩
  have hu2 : (!t && decide (0 < y.natAbs)) = u := by
    rw [hu1, ht1, Bool.eq_iff_iff]; simp; omega
  have cO := fun W (h : Nt W W.heap.size A2 L2 c2 y.natAbs) => opposite_any t A2 L2 c2 y.natAbs W h
  rw [hu2] at cO
  have cP := fun W (h1 : Nt W W.heap.size A1 L1 c1 x.natAbs) (h2 : Nt W W.heap.size A2 L2 c2 (-y).natAbs) => nplus_any x (-y) A1 A2 L1 c1 L2 c2 m1 m2 W h1 h2
  rw [show (-y).natAbs = y.natAbs by omega, show x + -y = x - y by omega, ← hs1, ← hu1] at cP
  rw [← hs1, ← ht1]
  have hs := held_start w s A1 L1 c1 t A2 L2 c2
  have cO' := fun W (h : Held w (w.heap.size) (w.heap.size + 1) (w.heap.size + 1 + 1) s A1 L1 c1 t A2 L2 c2 W) => cO W (h2.kept h.1)
  have cP' := fun W (h : Held w (w.heap.size) (w.heap.size + 1) (w.heap.size + 1 + 1) s A1 L1 c1 t A2 L2 c2 W) => cP W (h1.kept h.1) (h2.kept h.1)
  obtain ⟨D, hD⟩ : ∃ D, D = decide (x - y < 0) := ⟨_, rfl⟩
  obtain ⟨N, hN⟩ : ∃ N, N = (x - y).natAbs := ⟨_, rfl⟩
  obtain ⟨M, hM⟩ : ∃ M, M = y.natAbs := ⟨_, rfl⟩
  rw [← hD, ← hN] at cP' ⊢
  rw [← hM] at cO'
  have CP := Lib.hid cP'; have CO := Lib.hid cO'
  clear cP' cO' cP cO h1 h2 m1 m2 hD hN hM hs1 ht1 hu1 hu2
  go_enter Tryz.func32, Tryz.ntmps32
  go_wp2
  generalize (((w.alloc (.cells #[.bool s, .slice A1 L1 c1] 47)).alloc (.cells #[.bool t, .slice A2 L2 c2] 47)).alloc (.cells #[.bool false, .slice none 0 0] 47)) = W0 at hs ⊢
  have HS := Lib.hid hs
  clear hs
  go_region_held3 (fun W => Below w.heap.size w W ∧ W.cell? ⟨w.heap.size, 0, none⟩ = some (.bool s) ∧ W.cell? ⟨w.heap.size, 1, none⟩ = some (.slice A1 L1 c1) ∧ W.cell? ⟨w.heap.size + 1, 0, none⟩ = some (.bool t) ∧ W.cell? ⟨w.heap.size + 1, 1, none⟩ = some (.slice A2 L2 c2) ∧ W.cell? ⟨w.heap.size + 1 + 1, 0, none⟩ = some (cellOf W ⟨w.heap.size + 1 + 1, 0, none⟩) ∧ W.cell? ⟨w.heap.size + 1 + 1, 1, none⟩ = some (cellOf W ⟨w.heap.size + 1 + 1, 1, none⟩) ∧ W.frozen? ⟨w.heap.size + 1 + 1, 0, none⟩ = false ∧ W.frozen? ⟨w.heap.size + 1 + 1, 1, none⟩ = false ∧ Hid (Held w (w.heap.size) (w.heap.size + 1) (w.heap.size + 1 + 1) s A1 L1 c1 t A2 L2 c2 W))
    (first | assumption | exact HS.out.all | exact HS.out.drew.all | exact (Held.put (held_of (by assumption)) _ _ _ _).all | exact (Held.step (held_of (by assumption)) (by assumption)).all | exact (Held.drew (held_of (by assumption))).all)
    (first
      | (go_at_call 57; ((with_reducible refine (CO.out _ (held_of (by assumption))).mono ?_); rintro e w5 ⟨rfl, hN5, b5⟩))
      | (go_at_call 29; ((with_reducible refine (CP.out _ (held_of (by assumption))).mono ?_); rintro e w6 ⟨A6, L6, c6, rfl, hN6, b6⟩)))
  all_goals go_wp2
  all_goals have H6 := (HS.out.drew.step b5).step b6
  all_goals (try simp only [Exit.inBlock, Exit.then])
  all_goals refine bodyPost_ret (res_c rfl rfl (Held.row H6 _ _ _ _)) rfl ?_
  all_goals exact ⟨_, _, _, rfl, Held.nt H6 _ _ _ _ hN6, (Held.put H6 _ _ _ _).1⟩

set_option maxRecDepth 100000 in
set_option maxHeartbeats 8000000 in
theorem ntimes_any (x y : Int) (A1 A2 : Option Addr) (L1 c1 L2 c2 : Nat) (m1 : L1 ≤ 300) (m2 : L2 ≤ 300) (w : World) (h1 : Nt w w.heap.size A1 L1 c1 x.natAbs) (h2 : Nt w w.heap.size A2 L2 c2 y.natAbs) :
    Calls Tryz.prog 33 #[.agg #[.bool (decide (x < 0)), .slice A1 L1 c1], .agg #[.bool (decide (y < 0)), .slice A2 L2 c2]] w fun e w' => ∃ A L c, e = .returned (.agg #[.bool (decide (x * y < 0)), .slice A L c]) ∧ Nt w' w'.heap.size A L c (x * y).natAbs ∧ Below w.heap.size w w' := by
  obtain ⟨s, hs1⟩ : ∃ s, s = decide (x < 0) := ⟨_, rfl⟩
  obtain ⟨t, ht1⟩ : ∃ t, t = decide (y < 0) := ⟨_, rfl⟩
  have hD : ((!(s == t)) && decide (0 < x.natAbs * y.natAbs)) = decide (x * y < 0) := by
    rw [hs1, ht1]
    rcases Int.lt_trichotomy x 0 with hx | hx | hx <;> rcases Int.lt_trichotomy y 0 with hy | hy | hy
    · have h3 := Int.mul_pos_of_neg_of_neg hx hy
      rw [decide_eq_true hx, decide_eq_true hy, decide_eq_false (p := x * y < 0) (by omega)]; rfl
    · subst hy; simp
    · have h3 := Int.mul_neg_of_neg_of_pos hx hy
      have h4 : 0 < x.natAbs * y.natAbs := Nat.mul_pos (by omega) (by omega)
      rw [decide_eq_true hx, decide_eq_false (p := y < 0) (by omega), decide_eq_true h3, decide_eq_true h4]; rfl
    · subst hx; simp
    · subst hx; simp
    · subst hx; simp
    · have h3 := Int.mul_neg_of_pos_of_neg hx hy
      have h4 : 0 < x.natAbs * y.natAbs := Nat.mul_pos (by omega) (by omega)
      rw [decide_eq_false (p := x < 0) (by omega), decide_eq_true hy, decide_eq_true h3, decide_eq_true h4]; rfl
    · subst hy; simp
    · have h3 := Int.mul_pos hx hy
      rw [decide_eq_false (p := x < 0) (by omega), decide_eq_false (p := y < 0) (by omega), decide_eq_false (p := x * y < 0) (by omega)]; rfl
  rw [Int.natAbs_mul, ← hD, ← hs1, ← ht1]
  have hs := held_start w s A1 L1 c1 t A2 L2 c2
  have cT := fun W (h : Held w (w.heap.size) (w.heap.size + 1) (w.heap.size + 1 + 1) s A1 L1 c1 t A2 L2 c2 W) => times_any A1 A2 L1 c1 x.natAbs L2 c2 y.natAbs m1 m2 W (h1.kept h.1) (h2.kept h.1)
  have cS := fun (A : Option Addr) (L c : Nat) W (h : Nt W W.heap.size A L c (x.natAbs * y.natAbs)) => signed_any (!(s == t)) A L c (x.natAbs * y.natAbs) W h
  obtain ⟨D, hD⟩ : ∃ D, D = ((!(s == t)) && decide (0 < x.natAbs * y.natAbs)) := ⟨_, rfl⟩
  obtain ⟨N, hN⟩ : ∃ N, N = x.natAbs * y.natAbs := ⟨_, rfl⟩
  rw [← hD] at cS ⊢
  rw [← hN] at cS cT ⊢
  have CT := Lib.hid cT; have CS := Lib.hid cS
  clear cT cS h1 h2 m1 m2 hD hN hs1 ht1
  go_enter Tryz.func33, Tryz.ntmps33
  go_wp2
  generalize (((w.alloc (.cells #[.bool s, .slice A1 L1 c1] 47)).alloc (.cells #[.bool t, .slice A2 L2 c2] 47)).alloc (.cells #[.bool false, .slice none 0 0] 47)) = W0 at hs ⊢
  have HS := Lib.hid hs
  clear hs
  go_region_held3 (fun W => Below w.heap.size w W ∧ W.cell? ⟨w.heap.size, 0, none⟩ = some (.bool s) ∧ W.cell? ⟨w.heap.size, 1, none⟩ = some (.slice A1 L1 c1) ∧ W.cell? ⟨w.heap.size + 1, 0, none⟩ = some (.bool t) ∧ W.cell? ⟨w.heap.size + 1, 1, none⟩ = some (.slice A2 L2 c2) ∧ W.cell? ⟨w.heap.size + 1 + 1, 0, none⟩ = some (cellOf W ⟨w.heap.size + 1 + 1, 0, none⟩) ∧ W.cell? ⟨w.heap.size + 1 + 1, 1, none⟩ = some (cellOf W ⟨w.heap.size + 1 + 1, 1, none⟩) ∧ W.frozen? ⟨w.heap.size + 1 + 1, 0, none⟩ = false ∧ W.frozen? ⟨w.heap.size + 1 + 1, 1, none⟩ = false ∧ Hid (Held w (w.heap.size) (w.heap.size + 1) (w.heap.size + 1 + 1) s A1 L1 c1 t A2 L2 c2 W))
    (first | assumption | exact HS.out.all | exact HS.out.drew.all | exact (Held.put (held_of (by assumption)) _ _ _ _).all | exact (Held.step (held_of (by assumption)) (by assumption)).all | exact (Held.drew (held_of (by assumption))).all)
    (first
      | (go_at_call 58; ((with_reducible refine (CT.out _ (held_of (by assumption))).mono ?_); rintro e w5 ⟨A5, L5, c5, rfl, hN5, b5⟩))
      | (go_at_call 55; ((with_reducible refine (CS.out _ _ _ _ (by first | exact hN5 | exact hN5.drawn)).mono ?_); rintro e w6 ⟨rfl, hN6, b6⟩)))
  all_goals go_wp2
  all_goals have H6 := (HS.out.drew.step b5).step b6
  all_goals (try simp only [Exit.inBlock, Exit.then])
  all_goals refine bodyPost_ret (res_c rfl rfl (Held.row H6 _ _ _ _)) rfl ?_
  all_goals exact ⟨_, _, _, rfl, Held.nt H6 _ _ _ _ hN6, (Held.put H6 _ _ _ _).1⟩
end Go.Proofs.YtnehkoedmcnjoaaGreatDoor
