/- plus of numbers. -/
import Derived.Test.YtnehkoedmcnjoaaGreatDoorNum
namespace Go.Proofs.YtnehkoedmcnjoaaGreatDoor
open Go.RowKit

set_option maxRecDepth 100000 in
set_option maxHeartbeats 8000000 in
theorem nplus_same (s : Bool) (A1 A2 : Option Addr) (L1 c1 n1 L2 c2 n2 : Nat) (m1 : L1 ≤ 300) (m2 : L2 ≤ 300) (w : World) (h1 : Nt w w.heap.size A1 L1 c1 n1) (h2 : Nt w w.heap.size A2 L2 c2 n2) :
    Calls Tryz.prog 29 #[.agg #[.bool s, .slice A1 L1 c1], .agg #[.bool s, .slice A2 L2 c2]] w fun e w' => ∃ A L c, e = .returned (.agg #[.bool s, .slice A L c]) ∧ Nt w' w'.heap.size A L c (n1 + n2) ∧ Below w.heap.size w w' := by
  have hs := held_start w s A1 L1 c1 s A2 L2 c2
  have cP := fun W (h : Held w (w.heap.size) (w.heap.size + 1) (w.heap.size + 1 + 1) s A1 L1 c1 s A2 L2 c2 W) => plus_any A1 A2 L1 c1 n1 L2 c2 n2 (by omega) (by omega) W (h1.kept h.1) (h2.kept h.1)
  have CP := Lib.hid cP
  clear cP h1 h2 m1 m2
  have hss : (s == s) = true := by simp
  go_enter Tryz.func29, Tryz.ntmps29
  go_wp2
  generalize (((w.alloc (.cells #[.bool s, .slice A1 L1 c1] 47)).alloc (.cells #[.bool s, .slice A2 L2 c2] 47)).alloc (.cells #[.bool false, .slice none 0 0] 47)) = W0 at hs ⊢
  have HS := Lib.hid hs
  clear hs
  go_region_held3 (fun W => Below w.heap.size w W ∧ W.cell? ⟨w.heap.size, 0, none⟩ = some (.bool s) ∧ W.cell? ⟨w.heap.size, 1, none⟩ = some (.slice A1 L1 c1) ∧ W.cell? ⟨w.heap.size + 1, 0, none⟩ = some (.bool s) ∧ W.cell? ⟨w.heap.size + 1, 1, none⟩ = some (.slice A2 L2 c2) ∧ W.cell? ⟨w.heap.size + 1 + 1, 0, none⟩ = some (cellOf W ⟨w.heap.size + 1 + 1, 0, none⟩) ∧ W.cell? ⟨w.heap.size + 1 + 1, 1, none⟩ = some (cellOf W ⟨w.heap.size + 1 + 1, 1, none⟩) ∧ W.frozen? ⟨w.heap.size + 1 + 1, 0, none⟩ = false ∧ W.frozen? ⟨w.heap.size + 1 + 1, 1, none⟩ = false ∧ Hid (Held w (w.heap.size) (w.heap.size + 1) (w.heap.size + 1 + 1) s A1 L1 c1 s A2 L2 c2 W))
    (first | assumption | exact HS.out.all | exact HS.out.drew.all | exact (Held.put (held_of (by assumption)) _ _ _ _).all | exact (Held.step (held_of (by assumption)) (by assumption)).all | exact (Held.drew (held_of (by assumption))).all)
    (first
      | (go_at_call 53; ((with_reducible refine (CP.out _ (held_of (by assumption))).mono ?_); rintro e w6 ⟨A6, L6, c6, rfl, hN6, b6⟩)))
  all_goals go_wp2
  all_goals have H6 := HS.out.drew.step b6
  all_goals (try simp only [Exit.inBlock, Exit.then])
  all_goals refine bodyPost_ret (res_c rfl rfl (Held.row H6 _ _ _ _)) rfl ?_
  all_goals exact ⟨_, _, _, rfl, Held.nt H6 _ _ _ _ hN6, (Held.put H6 _ _ _ _).1⟩

set_option maxRecDepth 100000 in
set_option maxHeartbeats 8000000 in
/-- The greater of two numbers of different signs stands first. -/
theorem nplus_ge (s : Bool) (A1 A2 : Option Addr) (L1 c1 n1 L2 c2 n2 : Nat) (m1 : L1 ≤ 300) (m2 : L2 ≤ 300) (hge : n2 ≤ n1) (w : World) (h1 : Nt w w.heap.size A1 L1 c1 n1) (h2 : Nt w w.heap.size A2 L2 c2 n2) :
    Calls Tryz.prog 29 #[.agg #[.bool s, .slice A1 L1 c1], .agg #[.bool (!s), .slice A2 L2 c2]] w fun e w' => ∃ A L c, e = .returned (.agg #[.bool (s && decide (0 < n1 - n2)), .slice A L c]) ∧ Nt w' w'.heap.size A L c (n1 - n2) ∧ Below w.heap.size w w' := by
  obtain ⟨t, ht⟩ : ∃ t, t = !s := ⟨_, rfl⟩
  rw [← ht]
  have hs := held_start w s A1 L1 c1 t A2 L2 c2
  have hcmp : cmpI (n1 : Int) (n2 : Int) = 0 ∨ cmpI (n1 : Int) (n2 : Int) = 1 := by unfold cmpI; split <;> (try split) <;> omega
  have cC := compare_any A1 A2 L1 c1 n1 L2 c2 n2 _ (by omega) _ (h1.kept hs.1) (h2.kept hs.1)
  have cM := fun W (h : Held w (w.heap.size) (w.heap.size + 1) (w.heap.size + 1 + 1) s A1 L1 c1 t A2 L2 c2 W) => minus_any A1 A2 L1 c1 n1 L2 c2 n2 (by omega) (by omega) hge W (h1.kept h.1) (h2.kept h.1)
  have cS := fun (A : Option Addr) (L c : Nat) W (h : Nt W W.heap.size A L c (n1 - n2)) => signed_any s A L c (n1 - n2) W h
  obtain ⟨D, hD⟩ : ∃ D, D = (s && decide (0 < n1 - n2)) := ⟨_, rfl⟩
  obtain ⟨N, hN⟩ : ∃ N, N = n1 - n2 := ⟨_, rfl⟩
  obtain ⟨R, hR⟩ : ∃ R, R = cmpI (n1 : Int) (n2 : Int) := ⟨_, rfl⟩
  rw [← hN] at hD cM cS ⊢
  rw [← hD] at cS ⊢
  rw [← hR] at cC hcmp
  have hR0 : ¬ R < 0 := by rcases hcmp with h | h <;> omega
  have hss : (s == t) = false := by rw [ht]; cases s <;> rfl
  have CM := Lib.hid cM; have CC := Lib.hid cC; have CS := Lib.hid cS
  clear cM cC cS h1 h2 m1 m2 hD hN hR hcmp ht hge
  go_enter Tryz.func29, Tryz.ntmps29
  go_wp2_with (first
    | (go_at_call 54; (with_reducible refine CC.out.mono ?_); rintro e w3 ⟨rfl, rfl⟩)
    | fail)
  generalize (((w.alloc (.cells #[.bool s, .slice A1 L1 c1] 47)).alloc (.cells #[.bool t, .slice A2 L2 c2] 47)).alloc (.cells #[.bool false, .slice none 0 0] 47)) = W0 at hs ⊢
  have HS := Lib.hid hs
  clear hs CC
  go_region_held3 (fun W => Below w.heap.size w W ∧ W.cell? ⟨w.heap.size, 0, none⟩ = some (.bool s) ∧ W.cell? ⟨w.heap.size, 1, none⟩ = some (.slice A1 L1 c1) ∧ W.cell? ⟨w.heap.size + 1, 0, none⟩ = some (.bool t) ∧ W.cell? ⟨w.heap.size + 1, 1, none⟩ = some (.slice A2 L2 c2) ∧ W.cell? ⟨w.heap.size + 1 + 1, 0, none⟩ = some (cellOf W ⟨w.heap.size + 1 + 1, 0, none⟩) ∧ W.cell? ⟨w.heap.size + 1 + 1, 1, none⟩ = some (cellOf W ⟨w.heap.size + 1 + 1, 1, none⟩) ∧ W.frozen? ⟨w.heap.size + 1 + 1, 0, none⟩ = false ∧ W.frozen? ⟨w.heap.size + 1 + 1, 1, none⟩ = false ∧ Hid (Held w (w.heap.size) (w.heap.size + 1) (w.heap.size + 1 + 1) s A1 L1 c1 t A2 L2 c2 W))
    (first | assumption | exact HS.out.all | exact HS.out.drew.all | exact (Held.put (held_of (by assumption)) _ _ _ _).all | exact (Held.step (held_of (by assumption)) (by assumption)).all | exact (Held.drew (held_of (by assumption))).all)
    (first
      | (go_at_call 56; ((with_reducible refine (CM.out _ (held_of (by assumption))).mono ?_); rintro e w5 ⟨A5, L5, c5, rfl, hN5, b5⟩))
      | (go_at_call 55; ((with_reducible refine (CS.out _ _ _ _ (by first | exact hN5 | exact hN5.drawn)).mono ?_); rintro e w6 ⟨rfl, hN6, b6⟩)))
  all_goals go_wp2
  all_goals have H6 := (HS.out.drew.step b5).step b6
  all_goals (try simp only [Exit.inBlock, Exit.then])
  all_goals refine bodyPost_ret (res_c rfl rfl (Held.row H6 _ _ _ _)) rfl ?_
  all_goals exact ⟨_, _, _, rfl, Held.nt H6 _ _ _ _ hN6, (Held.put H6 _ _ _ _).1⟩

set_option maxRecDepth 100000 in
set_option maxHeartbeats 8000000 in
/-- The less of two numbers of different signs stands first. -/
theorem nplus_lt (s : Bool) (A1 A2 : Option Addr) (L1 c1 n1 L2 c2 n2 : Nat) (m1 : L1 ≤ 300) (m2 : L2 ≤ 300) (hlt : n1 < n2) (w : World) (h1 : Nt w w.heap.size A1 L1 c1 n1) (h2 : Nt w w.heap.size A2 L2 c2 n2) :
    Calls Tryz.prog 29 #[.agg #[.bool s, .slice A1 L1 c1], .agg #[.bool (!s), .slice A2 L2 c2]] w fun e w' => ∃ A L c, e = .returned (.agg #[.bool (!s), .slice A L c]) ∧ Nt w' w'.heap.size A L c (n2 - n1) ∧ Below w.heap.size w w' := by
  obtain ⟨t, ht⟩ : ∃ t, t = !s := ⟨_, rfl⟩
  rw [← ht]
  have hs0 := held_start w s A1 L1 c1 t A2 L2 c2
  have hs := held_start w t A2 L2 c2 s A1 L1 c1
  have hcmp : cmpI (n1 : Int) (n2 : Int) = -1 := by unfold cmpI; rw [if_pos (by omega)]
  have cC := compare_any A1 A2 L1 c1 n1 L2 c2 n2 _ (by omega) _ (h1.kept hs0.1) (h2.kept hs0.1)
  have cM := fun W (h : Held w (w.heap.size) (w.heap.size + 1) (w.heap.size + 1 + 1) t A2 L2 c2 s A1 L1 c1 W) => minus_any A2 A1 L2 c2 n2 L1 c1 n1 (by omega) (by omega) (by omega) W (h2.kept h.1) (h1.kept h.1)
  have cS := fun (A : Option Addr) (L c : Nat) W (h : Nt W W.heap.size A L c (n2 - n1)) => signed_any t A L c (n2 - n1) W h
  rw [decide_eq_true (show 0 < n2 - n1 by omega), Bool.and_true] at cS
  obtain ⟨N, hN⟩ : ∃ N, N = n2 - n1 := ⟨_, rfl⟩
  rw [← hN] at cM cS ⊢
  rw [hcmp] at cC
  have hss : (s == t) = false := by rw [ht]; cases s <;> rfl
  have CM := Lib.hid cM; have CC := Lib.hid cC; have CS := Lib.hid cS
  clear cM cC cS h1 h2 m1 m2 hN hcmp ht hlt hs0
  go_enter Tryz.func29, Tryz.ntmps29
  go_wp2_with (first
    | (go_at_call 54; (with_reducible refine CC.out.mono ?_); rintro e w3 ⟨rfl, rfl⟩)
    | fail)
  generalize (((w.alloc (.cells #[.bool t, .slice A2 L2 c2] 47)).alloc (.cells #[.bool s, .slice A1 L1 c1] 47)).alloc (.cells #[.bool false, .slice none 0 0] 47)) = W0 at hs ⊢
  have HS := Lib.hid hs
  clear hs CC
  go_region_held3 (fun W => Below w.heap.size w W ∧ W.cell? ⟨w.heap.size, 0, none⟩ = some (.bool t) ∧ W.cell? ⟨w.heap.size, 1, none⟩ = some (.slice A2 L2 c2) ∧ W.cell? ⟨w.heap.size + 1, 0, none⟩ = some (.bool s) ∧ W.cell? ⟨w.heap.size + 1, 1, none⟩ = some (.slice A1 L1 c1) ∧ W.cell? ⟨w.heap.size + 1 + 1, 0, none⟩ = some (cellOf W ⟨w.heap.size + 1 + 1, 0, none⟩) ∧ W.cell? ⟨w.heap.size + 1 + 1, 1, none⟩ = some (cellOf W ⟨w.heap.size + 1 + 1, 1, none⟩) ∧ W.frozen? ⟨w.heap.size + 1 + 1, 0, none⟩ = false ∧ W.frozen? ⟨w.heap.size + 1 + 1, 1, none⟩ = false ∧ Hid (Held w (w.heap.size) (w.heap.size + 1) (w.heap.size + 1 + 1) t A2 L2 c2 s A1 L1 c1 W))
    (first | assumption | exact HS.out.all | exact HS.out.drew.all | exact (Held.put (held_of (by assumption)) _ _ _ _).all | exact (Held.step (held_of (by assumption)) (by assumption)).all | exact (Held.drew (held_of (by assumption))).all)
    (first
      | (go_at_call 56; ((with_reducible refine (CM.out _ (held_of (by assumption))).mono ?_); rintro e w5 ⟨A5, L5, c5, rfl, hN5, b5⟩))
      | (go_at_call 55; ((with_reducible refine (CS.out _ _ _ _ (by first | exact hN5 | exact hN5.drawn)).mono ?_); rintro e w6 ⟨rfl, hN6, b6⟩)))
  all_goals go_wp2
  all_goals have H6 := (HS.out.drew.step b5).step b6
  all_goals (try simp only [Exit.inBlock, Exit.then])
  all_goals refine bodyPost_ret (res_c rfl rfl (Held.row H6 _ _ _ _)) rfl ?_
  all_goals exact ⟨_, _, _, rfl, Held.nt H6 _ _ _ _ hN6, (Held.put H6 _ _ _ _).1⟩

end Go.Proofs.YtnehkoedmcnjoaaGreatDoor
