/- Numbers: signed, opposite, isZero, compare, plus, minus, times. -/
import Derived.Test.YtnehkoedmcnjoaaGreatDoorParse
namespace Go.Proofs.YtnehkoedmcnjoaaGreatDoor
open Go.RowKit

/-- What a cell holds. -/
def cellOf (w : World) (a : Addr) : Value := (w.cell? a).getD undef
/-- A number's row, whatever it holds. -/
def NumRow (w : World) (g : Nat) : Prop := ∃ p A L c, Row w g 47 #[.bool p, .slice A L c]
theorem NumRow.eqs {w : World} {g : Nat} (h : NumRow w g) : w.cell? ⟨g, 0, none⟩ = some (cellOf w ⟨g, 0, none⟩) ∧ w.cell? ⟨g, 1, none⟩ = some (cellOf w ⟨g, 1, none⟩) ∧ w.frozen? ⟨g, 0, none⟩ = false ∧ w.frozen? ⟨g, 1, none⟩ = false := by
  obtain ⟨p, A, L, c, h⟩ := h
  obtain ⟨k0, k1, f0, f1⟩ := two_cells h
  exact ⟨by rw [cellOf, k0]; rfl, by rw [cellOf, k1]; rfl, f0, f1⟩
/-- Two numbers and a result in memory. -/
def Held (w : World) (g2 g3 g4 : Nat) (s1 : Bool) (A1 : Option Addr) (L1 c1 : Nat) (s2 : Bool) (A2 : Option Addr) (L2 c2 : Nat) (W : World) : Prop :=
  Below w.heap.size w W ∧ Row W g2 47 #[.bool s1, .slice A1 L1 c1] ∧ Row W g3 47 #[.bool s2, .slice A2 L2 c2] ∧ NumRow W g4 ∧ g4 ≠ g2 ∧ g4 ≠ g3 ∧ w.heap.size ≤ g4
section
variable {w W W' : World} {g2 g3 g4 : Nat} {s1 s2 : Bool} {A1 A2 : Option Addr} {L1 c1 L2 c2 : Nat}
theorem Held.all (h : Held w g2 g3 g4 s1 A1 L1 c1 s2 A2 L2 c2 W) : Below w.heap.size w W ∧ W.cell? ⟨g2, 0, none⟩ = some (.bool s1) ∧ W.cell? ⟨g2, 1, none⟩ = some (.slice A1 L1 c1) ∧ W.cell? ⟨g3, 0, none⟩ = some (.bool s2) ∧ W.cell? ⟨g3, 1, none⟩ = some (.slice A2 L2 c2) ∧ W.cell? ⟨g4, 0, none⟩ = some (cellOf W ⟨g4, 0, none⟩) ∧ W.cell? ⟨g4, 1, none⟩ = some (cellOf W ⟨g4, 1, none⟩) ∧ W.frozen? ⟨g4, 0, none⟩ = false ∧ W.frozen? ⟨g4, 1, none⟩ = false ∧ Hid (Held w g2 g3 g4 s1 A1 L1 c1 s2 A2 L2 c2 W) := by
  have hh := h
  obtain ⟨hb, r2, r3, r4, _⟩ := h
  obtain ⟨a, b, c, d⟩ := r4.eqs
  exact ⟨hb, r2.at rfl, r2.at rfl, r3.at rfl, r3.at rfl, a, b, c, d, hh⟩
theorem held_of (h : Below w.heap.size w W ∧ W.cell? ⟨g2, 0, none⟩ = some (.bool s1) ∧ W.cell? ⟨g2, 1, none⟩ = some (.slice A1 L1 c1) ∧ W.cell? ⟨g3, 0, none⟩ = some (.bool s2) ∧ W.cell? ⟨g3, 1, none⟩ = some (.slice A2 L2 c2) ∧ W.cell? ⟨g4, 0, none⟩ = some (cellOf W ⟨g4, 0, none⟩) ∧ W.cell? ⟨g4, 1, none⟩ = some (cellOf W ⟨g4, 1, none⟩) ∧ W.frozen? ⟨g4, 0, none⟩ = false ∧ W.frozen? ⟨g4, 1, none⟩ = false ∧ Hid (Held w g2 g3 g4 s1 A1 L1 c1 s2 A2 L2 c2 W)) : Held w g2 g3 g4 s1 A1 L1 c1 s2 A2 L2 c2 W := h.2.2.2.2.2.2.2.2.2
theorem Held.drew (h : Held w g2 g3 g4 s1 A1 L1 c1 s2 A2 L2 c2 W) : Held w g2 g3 g4 s1 A1 L1 c1 s2 A2 L2 c2 W.drew := by
  obtain ⟨hb, r2, r3, ⟨p, A, L, c, r4⟩, h⟩ := h
  exact ⟨hb.drew, r2.drawn, r3.drawn, ⟨p, A, L, c, r4.drawn⟩, h⟩
theorem Held.drewN (h : Held w g2 g3 g4 s1 A1 L1 c1 s2 A2 L2 c2 W) (n : Nat) : Held w g2 g3 g4 s1 A1 L1 c1 s2 A2 L2 c2 (W.drewN n) := by
  obtain ⟨hb, r2, r3, ⟨p, A, L, c, r4⟩, h⟩ := h
  exact ⟨below_drawnN hb n, r2.drawnN n, r3.drawnN n, ⟨p, A, L, c, r4.drawnN n⟩, h⟩
theorem Held.step (h : Held w g2 g3 g4 s1 A1 L1 c1 s2 A2 L2 c2 W) (b : Below W.heap.size W W') : Held w g2 g3 g4 s1 A1 L1 c1 s2 A2 L2 c2 W' := by
  obtain ⟨hb, r2, r3, ⟨p, A, L, c, r4⟩, h⟩ := h
  exact ⟨below_step hb b, r2.below b r2.inside, r3.below b r3.inside, ⟨p, A, L, c, r4.below b r4.inside⟩, h⟩
theorem Held.put (h : Held w g2 g3 g4 s1 A1 L1 c1 s2 A2 L2 c2 W) (p : Bool) (A : Option Addr) (L c : Nat) : Held w g2 g3 g4 s1 A1 L1 c1 s2 A2 L2 c2 ((W.setCell ⟨g4, 0, none⟩ (.bool p)).setCell ⟨g4, 1, none⟩ (.slice A L c)) := by
  obtain ⟨hb, r2, r3, ⟨p', A', L', c', r4⟩, n2, n3, hl⟩ := h
  exact ⟨below_put hb hl _ _, num_far r2 n2 _ _, num_far r3 n3 _ _, ⟨p, A, L, c, num_put r4 p A L c⟩, n2, n3, hl⟩
theorem Held.row (h : Held w g2 g3 g4 s1 A1 L1 c1 s2 A2 L2 c2 W) (p : Bool) (A : Option Addr) (L c : Nat) : Row ((W.setCell ⟨g4, 0, none⟩ (.bool p)).setCell ⟨g4, 1, none⟩ (.slice A L c)) g4 47 #[.bool p, .slice A L c] := by
  obtain ⟨hb, r2, r3, ⟨p', A', L', c', r4⟩, n2, n3, hl⟩ := h
  exact num_put r4 p A L c
theorem Held.nt (h : Held w g2 g3 g4 s1 A1 L1 c1 s2 A2 L2 c2 W) (p : Bool) (A : Option Addr) (L c : Nat) {A' : Option Addr} {L' c' n : Nat} (hN : Nt W W.heap.size A' L' c' n) :
    Nt ((W.setCell ⟨g4, 0, none⟩ (.bool p)).setCell ⟨g4, 1, none⟩ (.slice A L c)) ((W.setCell ⟨g4, 0, none⟩ (.bool p)).setCell ⟨g4, 1, none⟩ (.slice A L c)).heap.size A' L' c' n := by
  obtain ⟨hb, r2, r3, ⟨p', A0, L0, c0, r4⟩, n2, n3, hl⟩ := h
  rw [put_size]
  exact hN.put2 r4 p A L c
end
/-- Two numbers boxed, and a result made. -/
theorem held_start (w : World) (s1 : Bool) (A1 : Option Addr) (L1 c1 : Nat) (s2 : Bool) (A2 : Option Addr) (L2 c2 : Nat) :
    Held w w.heap.size (w.heap.size + 1) (w.heap.size + 1 + 1) s1 A1 L1 c1 s2 A2 L2 c2 (((w.alloc (.cells #[.bool s1, .slice A1 L1 c1] 47)).alloc (.cells #[.bool s2, .slice A2 L2 c2] 47)).alloc (.cells #[.bool false, .slice none 0 0] 47)) :=
  ⟨((below_alloc w _).alloc (by simp) _).alloc (by simp; omega) _, ((Row.made w _ _).later _).later _, (Row.made_at _ _ _ (by simp)).later _, ⟨false, none, 0, 0, Row.made_at _ _ _ (by simp)⟩, by omega, by omega, by omega⟩

set_option maxRecDepth 100000 in
set_option maxHeartbeats 4000000 in
theorem signed_any (s : Bool) (A : Option Addr) (L c n : Nat) (w : World) (h : Nt w w.heap.size A L c n) :
    Calls Tryz.prog 55 #[.bool s, .slice A L c] w fun e w' => e = .returned (.agg #[.bool (s && decide (0 < n)), .slice A L c]) ∧ Nt w' w'.heap.size A L c n ∧ Below w.heap.size w w' := by
  have hL0 : 0 < L ↔ 0 < n := by
    rw [h.len]
    constructor
    · intro h1
      rcases Nat.eq_zero_or_pos n with h2 | h2
      · rw [h2, grp_zero] at h1; simp at h1
      · exact h2
    · intro h1; exact List.length_pos_iff.2 (grp_ne h1)
  have HK := Lib.hid h
  obtain ⟨D, hD⟩ : ∃ D, D = (s && decide (0 < n)) := ⟨_, rfl⟩
  rw [← hD]
  by_cases h0 : 0 < L
  · have hn : D = s := by rw [hD, decide_eq_true (hL0.1 h0), Bool.and_true]
    subst hn
    have h1 : (0 : Int) < (L : Int) := by omega
    clear hD hL0 h
    cases D
    · go_enter Tryz.func55, Tryz.ntmps55
      go_wp2
      (try simp only [Exit.inBlock, Exit.then])
      refine bodyPost_ret (res_c rfl rfl (Row.made w 47 #[.bool false, .slice A L c])) rfl ?_
      exact ⟨rfl, HK.out.kept (below_alloc w _), below_alloc w _⟩
    · go_enter Tryz.func55, Tryz.ntmps55
      go_wp2
      (try simp only [Exit.inBlock, Exit.then])
      refine bodyPost_ret (res_c rfl rfl (Row.made w 47 #[.bool true, .slice A L c])) rfl ?_
      exact ⟨rfl, HK.out.kept (below_alloc w _), below_alloc w _⟩
  · have hn : D = false := by rw [hD, decide_eq_false (fun e => h0 (hL0.2 e)), Bool.and_false]
    subst hn
    have h1 : ¬ (0 : Int) < (L : Int) := by omega
    clear hD hL0 h
    cases s
    · go_enter Tryz.func55, Tryz.ntmps55
      go_wp2
      (try simp only [Exit.inBlock, Exit.then])
      refine bodyPost_ret (res_c rfl rfl (Row.made w 47 #[.bool false, .slice A L c])) rfl ?_
      exact ⟨rfl, HK.out.kept (below_alloc w _), below_alloc w _⟩
    · go_enter Tryz.func55, Tryz.ntmps55
      go_wp2
      (try simp only [Exit.inBlock, Exit.then])
      refine bodyPost_ret (res_c rfl rfl (Row.made w 47 #[.bool false, .slice A L c])) rfl ?_
      exact ⟨rfl, HK.out.kept (below_alloc w _), below_alloc w _⟩

set_option maxRecDepth 100000 in
set_option maxHeartbeats 4000000 in
theorem opposite_any (s : Bool) (A : Option Addr) (L c n : Nat) (w : World) (h : Nt w w.heap.size A L c n) :
    Calls Tryz.prog 57 #[.agg #[.bool s, .slice A L c]] w fun e w' => e = .returned (.agg #[.bool (!s && decide (0 < n)), .slice A L c]) ∧ Nt w' w'.heap.size A L c n ∧ Below w.heap.size w w' := by
  have hb0 : Below w.heap.size w ((w.alloc (.cells #[.bool s, .slice A L c] 47)).alloc (.cells #[.bool false, .slice none 0 0] 47)) := (below_alloc w _).alloc (by simp) _
  have r0 : Row ((w.alloc (.cells #[.bool s, .slice A L c] 47)).alloc (.cells #[.bool false, .slice none 0 0] 47)) (w.heap.size + 1) 47 #[.bool false, .slice none 0 0] := Row.made_at _ _ _ (by simp)
  have cS := signed_any (!s) A L c n ((w.alloc (.cells #[.bool s, .slice A L c] 47)).alloc (.cells #[.bool false, .slice none 0 0] 47)) (h.kept hb0)
  obtain ⟨D, hD⟩ : ∃ D, D = (!s && decide (0 < n)) := ⟨_, rfl⟩
  rw [← hD] at cS ⊢
  have HR := Lib.hid r0; have HB := Lib.hid hb0; have CS := Lib.hid cS
  clear hD r0 hb0 cS h
  go_enter Tryz.func57, Tryz.ntmps57
  go_wp2_with (first
    | (go_at_call 55; (with_reducible refine CS.out.mono ?_); rintro e w3 ⟨rfl, hN3, hb3⟩; have q := HR.out.below hb3 HR.out.inside; obtain ⟨k0, k1, f0, f1⟩ := two_cells q; have HQ := Lib.hid q; clear q)
    | fail)
  (try simp only [Exit.inBlock, Exit.then])
  refine bodyPost_ret (res_c rfl rfl (num_put HQ.out D A L c)) rfl ?_
  exact ⟨rfl, by rw [put_size]; exact hN3.put2 HQ.out _ _ _ _, below_put (below_step HB.out hb3) (by omega) _ _⟩

set_option maxRecDepth 100000 in
set_option maxHeartbeats 4000000 in
theorem isZero_any (s : Bool) (A : Option Addr) (L c n : Nat) (w : World) (h : Nt w w.heap.size A L c n) :
    Calls Tryz.prog 37 #[.agg #[.bool s, .slice A L c]] w fun e w' => e = .returned (.bool (decide (n = 0))) ∧ Below w.heap.size w w' := by
  have hL0 : decide (n = 0) = ((L : Int) == 0) := by
    have : L = 0 ↔ n = 0 := by rw [h.len, ← grp_nil (n := n)]; exact List.length_eq_zero_iff
    by_cases h0 : n = 0
    · rw [decide_eq_true h0, this.2 h0]; rfl
    · have h1 : ¬ L = 0 := fun e => h0 (this.1 e)
      rw [decide_eq_false h0]; symm; rw [beq_eq_false_iff_ne]; omega
  rw [hL0]
  have hb := below_alloc w (.cells #[.bool s, .slice A L c] 47)
  have HB := Lib.hid hb
  clear hL0 h hb
  go_enter Tryz.func37, Tryz.ntmps37
  go_wp2
  go_ret
  exact ⟨rfl, HB.out⟩

/-- The order of two numbers by their signs and sizes. -/
def cmpZ (s1 : Bool) (n1 : Nat) (s2 : Bool) (n2 : Nat) : Int := if s1 then (if s2 then cmpI n2 n1 else -1) else (if s2 then 1 else cmpI n1 n2)
set_option maxRecDepth 100000 in
set_option maxHeartbeats 4000000 in
theorem ncompare_any (s1 s2 : Bool) (A1 A2 : Option Addr) (L1 c1 n1 L2 c2 n2 : Nat) (m1 : L1 ≤ 900) (m2 : L2 ≤ 900) (w : World) (h1 : Nt w w.heap.size A1 L1 c1 n1) (h2 : Nt w w.heap.size A2 L2 c2 n2) :
    Calls Tryz.prog 51 #[.agg #[.bool s1, .slice A1 L1 c1], .agg #[.bool s2, .slice A2 L2 c2]] w fun e w' => e = .returned (.int .i64 (cmpZ s1 n1 s2 n2)) ∧ Below w.heap.size w w' := by
  have hb0 : Below w.heap.size w ((w.alloc (.cells #[.bool s1, .slice A1 L1 c1] 47)).alloc (.cells #[.bool s2, .slice A2 L2 c2] 47)) := (below_alloc w _).alloc (by simp) _
  have k1 := h1.kept hb0
  have k2 := h2.kept hb0
  have c12 := compare_any A1 A2 L1 c1 n1 L2 c2 n2 _ (by omega) _ k1 k2
  have c21 := compare_any A2 A1 L2 c2 n2 L1 c1 n1 _ (by omega) _ k2 k1
  have HB := Lib.hid hb0; have C12 := Lib.hid c12; have C21 := Lib.hid c21
  clear hb0 k1 k2 c12 c21 h1 h2 m1 m2
  cases s1 <;> cases s2
  all_goals simp only [cmpZ, if_true, if_false, Bool.false_eq_true]
  all_goals go_enter Tryz.func51, Tryz.ntmps51
  all_goals go_wp2_with (first
    | (go_at_call 54; (with_reducible refine C12.out.mono ?_); rintro e w3 ⟨rfl, rfl⟩)
    | (go_at_call 54; (with_reducible refine C21.out.mono ?_); rintro e w3 ⟨rfl, rfl⟩)
    | fail)
  all_goals go_ret
  all_goals exact ⟨rfl, HB.out⟩
end Go.Proofs.YtnehkoedmcnjoaaGreatDoor
