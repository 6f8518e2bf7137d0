/- Numbers: signed, opposite, isZero, compare, plus, minus, times. plus of numbers. Sums, differences and products of numbers. text and gcd of numbers. divide of numbers. -/
import Derived.Test.YtgpncnnlhhmjaaaGreatDoorParse
import Derived.Deep.LoopGhost
namespace Go.Proofs.YtgpncnnlhhmjaaaGreatDoor
open Go.RowKit

/-- What a cell holds. -/
def cellOf (w : World) (a : Addr) : Value := (w.cell? a).getD undef
/-- A number's row, whatever it holds. -/
def NumRow (w : World) (g : Nat) : Prop := ∃ p A L c, Row w g 91 #[.bool p, .slice A L c]
theorem NumRow.eqs {w : World} {g : Nat} (h : NumRow w g) : w.cell? ⟨g, 0, none⟩ = some (cellOf w ⟨g, 0, none⟩) ∧ w.cell? ⟨g, 1, none⟩ = some (cellOf w ⟨g, 1, none⟩) ∧ w.frozen? ⟨g, 0, none⟩ = false ∧ w.frozen? ⟨g, 1, none⟩ = false := by
  obtain ⟨p, A, L, c, h⟩ := h
  obtain ⟨k0, k1, f0, f1⟩ := two_cells h
  exact ⟨by rw [cellOf, k0]; rfl, by rw [cellOf, k1]; rfl, f0, f1⟩
/-- Two numbers and a result in memory. -/
def Held (w : World) (g2 g3 g4 : Nat) (s1 : Bool) (A1 : Option Addr) (L1 c1 : Nat) (s2 : Bool) (A2 : Option Addr) (L2 c2 : Nat) (W : World) : Prop :=
  Below w.heap.size w W ∧ Row W g2 91 #[.bool s1, .slice A1 L1 c1] ∧ Row W g3 91 #[.bool s2, .slice A2 L2 c2] ∧ NumRow W g4 ∧ g4 ≠ g2 ∧ g4 ≠ g3 ∧ w.heap.size ≤ g4
section
variable {w W W' : World} {g2 g3 g4 : Nat} {s1 s2 : Bool} {A1 A2 : Option Addr} {L1 c1 L2 c2 : Nat}
theorem Held.all (h : Held w g2 g3 g4 s1 A1 L1 c1 s2 A2 L2 c2 W) : Below w.heap.size w W ∧ W.cell? ⟨g2, 0, none⟩ = some (.bool s1) ∧ W.cell? ⟨g2, 1, none⟩ = some (.slice A1 L1 c1) ∧ W.cell? ⟨g3, 0, none⟩ = some (.bool s2) ∧ W.cell? ⟨g3, 1, none⟩ = some (.slice A2 L2 c2) ∧ W.cell? ⟨g4, 0, none⟩ = some (cellOf W ⟨g4, 0, none⟩) ∧ W.cell? ⟨g4, 1, none⟩ = some (cellOf W ⟨g4, 1, none⟩) ∧ W.frozen? ⟨g4, 0, none⟩ = false ∧ W.frozen? ⟨g4, 1, none⟩ = false ∧ Hid (Held w g2 g3 g4 s1 A1 L1 c1 s2 A2 L2 c2 W) := by
  have hh := h
  obtain ⟨hb, r2, r3, r4, _⟩ := h
  obtain ⟨a, b, c, d⟩ := r4.eqs
  exact ⟨hb, r2.at rfl, r2.at rfl, r3.at rfl, r3.at rfl, a, b, c, d, hh⟩
theorem held_of (h : Below w.heap.size w W ∧ W.cell? ⟨g2, 0, none⟩ = some (.bool s1) ∧ W.cell? ⟨g2, 1, none⟩ = some (.slice A1 L1 c1) ∧ W.cell? ⟨g3, 0, none⟩ = some (.bool s2) ∧ W.cell? ⟨g3, 1, none⟩ = some (.slice A2 L2 c2) ∧ W.cell? ⟨g4, 0, none⟩ = some (cellOf W ⟨g4, 0, none⟩) ∧ W.cell? ⟨g4, 1, none⟩ = some (cellOf W ⟨g4, 1, none⟩) ∧ W.frozen? ⟨g4, 0, none⟩ = false ∧ W.frozen? ⟨g4, 1, none⟩ = false ∧ Hid (Held w g2 g3 g4 s1 A1 L1 c1 s2 A2 L2 c2 W)) : Held w g2 g3 g4 s1 A1 L1 c1 s2 A2 L2 c2 W := h.2.2.2.2.2.2.2.2.2
theorem Held.drew (h : Held w g2 g3 g4 s1 A1 L1 c1 s2 A2 L2 c2 W) : Held w g2 g3 g4 s1 A1 L1 c1 s2 A2 L2 c2 W.drew := by
  obtain ⟨hb, r2, r3, ⟨p, A, L, c, r4⟩, h⟩ := h
  exact ⟨hb.drew, r2.drawn, r3.drawn, ⟨p, A, L, c, r4.drawn⟩, h⟩
theorem Held.drewN (h : Held w g2 g3 g4 s1 A1 L1 c1 s2 A2 L2 c2 W) (n : Nat) : Held w g2 g3 g4 s1 A1 L1 c1 s2 A2 L2 c2 (W.drewN n) := by
  obtain ⟨hb, r2, r3, ⟨p, A, L, c, r4⟩, h⟩ := h
  exact ⟨below_drawnN hb n, r2.drawnN n, r3.drawnN n, ⟨p, A, L, c, r4.drawnN n⟩, h⟩
theorem Held.step (h : Held w g2 g3 g4 s1 A1 L1 c1 s2 A2 L2 c2 W) (b : Below W.heap.size W W') : Held w g2 g3 g4 s1 A1 L1 c1 s2 A2 L2 c2 W' := by
  obtain ⟨hb, r2, r3, ⟨p, A, L, c, r4⟩, h⟩ := h
  exact ⟨below_step hb b, r2.below b r2.inside, r3.below b r3.inside, ⟨p, A, L, c, r4.below b r4.inside⟩, h⟩
theorem Held.put (h : Held w g2 g3 g4 s1 A1 L1 c1 s2 A2 L2 c2 W) (p : Bool) (A : Option Addr) (L c : Nat) : Held w g2 g3 g4 s1 A1 L1 c1 s2 A2 L2 c2 ((W.setCell ⟨g4, 0, none⟩ (.bool p)).setCell ⟨g4, 1, none⟩ (.slice A L c)) := by
  obtain ⟨hb, r2, r3, ⟨p', A', L', c', r4⟩, n2, n3, hl⟩ := h
  exact ⟨below_put hb hl _ _, num_far r2 n2 _ _, num_far r3 n3 _ _, ⟨p, A, L, c, num_put r4 p A L c⟩, n2, n3, hl⟩
theorem Held.row (h : Held w g2 g3 g4 s1 A1 L1 c1 s2 A2 L2 c2 W) (p : Bool) (A : Option Addr) (L c : Nat) : Row ((W.setCell ⟨g4, 0, none⟩ (.bool p)).setCell ⟨g4, 1, none⟩ (.slice A L c)) g4 91 #[.bool p, .slice A L c] := by
  obtain ⟨hb, r2, r3, ⟨p', A', L', c', r4⟩, n2, n3, hl⟩ := h
  exact num_put r4 p A L c
theorem Held.nt (h : Held w g2 g3 g4 s1 A1 L1 c1 s2 A2 L2 c2 W) (p : Bool) (A : Option Addr) (L c : Nat) {A' : Option Addr} {L' c' n : Nat} (hN : Nt W W.heap.size A' L' c' n) :
    Nt ((W.setCell ⟨g4, 0, none⟩ (.bool p)).setCell ⟨g4, 1, none⟩ (.slice A L c)) ((W.setCell ⟨g4, 0, none⟩ (.bool p)).setCell ⟨g4, 1, none⟩ (.slice A L c)).heap.size A' L' c' n := by
  obtain ⟨hb, r2, r3, ⟨p', A0, L0, c0, r4⟩, n2, n3, hl⟩ := h
  rw [put_size]
  exact hN.put2 r4 p A L c
end
/-- Two numbers boxed, and a result made. -/
theorem held_start (w : World) (s1 : Bool) (A1 : Option Addr) (L1 c1 : Nat) (s2 : Bool) (A2 : Option Addr) (L2 c2 : Nat) :
    Held w w.heap.size (w.heap.size + 1) (w.heap.size + 1 + 1) s1 A1 L1 c1 s2 A2 L2 c2 (((w.alloc (.cells #[.bool s1, .slice A1 L1 c1] 91)).alloc (.cells #[.bool s2, .slice A2 L2 c2] 91)).alloc (.cells #[.bool false, .slice none 0 0] 91)) :=
  ⟨((below_alloc w _).alloc (by simp) _).alloc (by simp; omega) _, ((Row.made w _ _).later _).later _, (Row.made_at _ _ _ (by simp)).later _, ⟨false, none, 0, 0, Row.made_at _ _ _ (by simp)⟩, by omega, by omega, by omega⟩

set_option maxRecDepth 100000 in
set_option maxHeartbeats 4000000 in
theorem signed_any (s : Bool) (A : Option Addr) (L c n : Nat) (w : World) (h : Nt w w.heap.size A L c n) :
    Calls Tryz.prog 105 #[.bool s, .slice A L c] w fun e w' => e = .returned (.agg #[.bool (s && decide (0 < n)), .slice A L c]) ∧ Nt w' w'.heap.size A L c n ∧ Below w.heap.size w w' := by
  have hL0 : 0 < L ↔ 0 < n := by
    rw [h.len]
    constructor
    · intro h1
      rcases Nat.eq_zero_or_pos n with h2 | h2
      · rw [h2, grp_zero] at h1; simp at h1
      · exact h2
    · intro h1; exact List.length_pos_iff.2 (grp_ne h1)
  have HK := Lib.hid h
  obtain ⟨D, hD⟩ : ∃ D, D = (s && decide (0 < n)) := ⟨_, rfl⟩
  rw [← hD]
  by_cases h0 : 0 < L
  · have hn : D = s := by rw [hD, decide_eq_true (hL0.1 h0), Bool.and_true]
    subst hn
    have h1 : (0 : Int) < (L : Int) := by omega
    clear hD hL0 h
    cases D
    · go_enter Tryz.func105, Tryz.ntmps105
      go_wp2
      (try simp only [Exit.inBlock, Exit.then])
      refine bodyPost_ret (res_c rfl rfl (Row.made w 91 #[.bool false, .slice A L c])) rfl ?_
      exact ⟨rfl, HK.out.kept (below_alloc w _), below_alloc w _⟩
    · go_enter Tryz.func105, Tryz.ntmps105
      go_wp2
      (try simp only [Exit.inBlock, Exit.then])
      refine bodyPost_ret (res_c rfl rfl (Row.made w 91 #[.bool true, .slice A L c])) rfl ?_
      exact ⟨rfl, HK.out.kept (below_alloc w _), below_alloc w _⟩
  · have hn : D = false := by rw [hD, decide_eq_false (fun e => h0 (hL0.2 e)), Bool.and_false]
    subst hn
    have h1 : ¬ (0 : Int) < (L : Int) := by omega
    clear hD hL0 h
    cases s
    · go_enter Tryz.func105, Tryz.ntmps105
      go_wp2
      (try simp only [Exit.inBlock, Exit.then])
      refine bodyPost_ret (res_c rfl rfl (Row.made w 91 #[.bool false, .slice A L c])) rfl ?_
      exact ⟨rfl, HK.out.kept (below_alloc w _), below_alloc w _⟩
    · go_enter Tryz.func105, Tryz.ntmps105
      go_wp2
      (try simp only [Exit.inBlock, Exit.then])
      refine bodyPost_ret (res_c rfl rfl (Row.made w 91 #[.bool false, .slice A L c])) rfl ?_
      exact ⟨rfl, HK.out.kept (below_alloc w _), below_alloc w _⟩

set_option maxRecDepth 100000 in
set_option maxHeartbeats 4000000 in
theorem opposite_any (s : Bool) (A : Option Addr) (L c n : Nat) (w : World) (h : Nt w w.heap.size A L c n) :
    Calls Tryz.prog 123 #[.agg #[.bool s, .slice A L c]] w fun e w' => e = .returned (.agg #[.bool (!s && decide (0 < n)), .slice A L c]) ∧ Nt w' w'.heap.size A L c n ∧ Below w.heap.size w w' := by
  have hb0 : Below w.heap.size w ((w.alloc (.cells #[.bool s, .slice A L c] 91)).alloc (.cells #[.bool false, .slice none 0 0] 91)) := (below_alloc w _).alloc (by simp) _
  have r0 : Row ((w.alloc (.cells #[.bool s, .slice A L c] 91)).alloc (.cells #[.bool false, .slice none 0 0] 91)) (w.heap.size + 1) 91 #[.bool false, .slice none 0 0] := Row.made_at _ _ _ (by simp)
  have cS := signed_any (!s) A L c n ((w.alloc (.cells #[.bool s, .slice A L c] 91)).alloc (.cells #[.bool false, .slice none 0 0] 91)) (h.kept hb0)
  obtain ⟨D, hD⟩ : ∃ D, D = (!s && decide (0 < n)) := ⟨_, rfl⟩
  rw [← hD] at cS ⊢
  have HR := Lib.hid r0; have HB := Lib.hid hb0; have CS := Lib.hid cS
  clear hD r0 hb0 cS h
  go_enter Tryz.func123, Tryz.ntmps123
  go_wp2_with (first
    | (go_at_call 105; (with_reducible refine CS.out.mono ?_); rintro e w3 ⟨rfl, hN3, hb3⟩; have q := HR.out.below hb3 HR.out.inside; obtain ⟨k0, k1, f0, f1⟩ := two_cells q; have HQ := Lib.hid q; clear q)
    | fail)
  (try simp only [Exit.inBlock, Exit.then])
  refine bodyPost_ret (res_c rfl rfl (num_put HQ.out D A L c)) rfl ?_
  exact ⟨rfl, by rw [put_size]; exact hN3.put2 HQ.out _ _ _ _, below_put (below_step HB.out hb3) (by omega) _ _⟩

set_option maxRecDepth 100000 in
set_option maxHeartbeats 4000000 in
theorem isZero_any (s : Bool) (A : Option Addr) (L c n : Nat) (w : World) (h : Nt w w.heap.size A L c n) :
    Calls Tryz.prog 74 #[.agg #[.bool s, .slice A L c]] w fun e w' => e = .returned (.bool (decide (n = 0))) ∧ Below w.heap.size w w' := by
  have hL0 : decide (n = 0) = ((L : Int) == 0) := by
    have : L = 0 ↔ n = 0 := by rw [h.len, ← grp_nil (n := n)]; exact List.length_eq_zero_iff
    by_cases h0 : n = 0
    · rw [decide_eq_true h0, this.2 h0]; rfl
    · have h1 : ¬ L = 0 := fun e => h0 (this.1 e)
      rw [decide_eq_false h0]; symm; rw [beq_eq_false_iff_ne]; omega
  rw [hL0]
  have hb := below_alloc w (.cells #[.bool s, .slice A L c] 91)
  have HB := Lib.hid hb
  clear hL0 h hb
  go_enter Tryz.func74, Tryz.ntmps74
  go_wp2
  go_ret
  exact ⟨rfl, HB.out⟩

/-- The order of two numbers by their signs and sizes. -/
def cmpZ (s1 : Bool) (n1 : Nat) (s2 : Bool) (n2 : Nat) : Int := if s1 then (if s2 then cmpI n2 n1 else -1) else (if s2 then 1 else cmpI n1 n2)
set_option maxRecDepth 100000 in
set_option maxHeartbeats 4000000 in
theorem ncompare_any (s1 s2 : Bool) (A1 A2 : Option Addr) (L1 c1 n1 L2 c2 n2 : Nat) (m1 : L1 ≤ 900) (m2 : L2 ≤ 900) (w : World) (h1 : Nt w w.heap.size A1 L1 c1 n1) (h2 : Nt w w.heap.size A2 L2 c2 n2) :
    Calls Tryz.prog 77 #[.agg #[.bool s1, .slice A1 L1 c1], .agg #[.bool s2, .slice A2 L2 c2]] w fun e w' => e = .returned (.int .i64 (cmpZ s1 n1 s2 n2)) ∧ Below w.heap.size w w' := by
  have hb0 : Below w.heap.size w ((w.alloc (.cells #[.bool s1, .slice A1 L1 c1] 91)).alloc (.cells #[.bool s2, .slice A2 L2 c2] 91)) := (below_alloc w _).alloc (by simp) _
  have k1 := h1.kept hb0
  have k2 := h2.kept hb0
  have c12 := compare_any A1 A2 L1 c1 n1 L2 c2 n2 _ (by omega) _ k1 k2
  have c21 := compare_any A2 A1 L2 c2 n2 L1 c1 n1 _ (by omega) _ k2 k1
  have HB := Lib.hid hb0; have C12 := Lib.hid c12; have C21 := Lib.hid c21
  clear hb0 k1 k2 c12 c21 h1 h2 m1 m2
  cases s1 <;> cases s2
  all_goals simp only [cmpZ, if_true, if_false, Bool.false_eq_true]
  all_goals go_enter Tryz.func77, Tryz.ntmps77
  all_goals go_wp2_with (first
    | (go_at_call 107; (with_reducible refine C12.out.mono ?_); rintro e w3 ⟨rfl, rfl⟩)
    | (go_at_call 107; (with_reducible refine C21.out.mono ?_); rintro e w3 ⟨rfl, rfl⟩)
    | fail)
  all_goals go_ret
  all_goals exact ⟨rfl, HB.out⟩
end Go.Proofs.YtgpncnnlhhmjaaaGreatDoor
namespace Go.Proofs.YtgpncnnlhhmjaaaGreatDoor
open Go.RowKit

set_option maxRecDepth 100000 in
set_option maxHeartbeats 8000000 in
theorem nplus_same (s : Bool) (A1 A2 : Option Addr) (L1 c1 n1 L2 c2 n2 : Nat) (m1 : L1 ≤ 300) (m2 : L2 ≤ 300) (w : World) (h1 : Nt w w.heap.size A1 L1 c1 n1) (h2 : Nt w w.heap.size A2 L2 c2 n2) :
    Calls Tryz.prog 93 #[.agg #[.bool s, .slice A1 L1 c1], .agg #[.bool s, .slice A2 L2 c2]] w fun e w' => ∃ A L c, e = .returned (.agg #[.bool s, .slice A L c]) ∧ Nt w' w'.heap.size A L c (n1 + n2) ∧ Below w.heap.size w w' := by
  have hs := held_start w s A1 L1 c1 s A2 L2 c2
  have cP := fun W (h : Held w (w.heap.size) (w.heap.size + 1) (w.heap.size + 1 + 1) s A1 L1 c1 s A2 L2 c2 W) => plus_any A1 A2 L1 c1 n1 L2 c2 n2 (by omega) (by omega) W (h1.kept h.1) (h2.kept h.1)
  have CP := Lib.hid cP
  clear cP h1 h2 m1 m2
  have hss : (s == s) = true := by simp
  go_enter Tryz.func93, Tryz.ntmps93
  go_wp2
  generalize (((w.alloc (.cells #[.bool s, .slice A1 L1 c1] 91)).alloc (.cells #[.bool s, .slice A2 L2 c2] 91)).alloc (.cells #[.bool false, .slice none 0 0] 91)) = W0 at hs ⊢
  have HS := Lib.hid hs
  clear hs
  go_region_held3 (fun W => Below w.heap.size w W ∧ W.cell? ⟨w.heap.size, 0, none⟩ = some (.bool s) ∧ W.cell? ⟨w.heap.size, 1, none⟩ = some (.slice A1 L1 c1) ∧ W.cell? ⟨w.heap.size + 1, 0, none⟩ = some (.bool s) ∧ W.cell? ⟨w.heap.size + 1, 1, none⟩ = some (.slice A2 L2 c2) ∧ W.cell? ⟨w.heap.size + 1 + 1, 0, none⟩ = some (cellOf W ⟨w.heap.size + 1 + 1, 0, none⟩) ∧ W.cell? ⟨w.heap.size + 1 + 1, 1, none⟩ = some (cellOf W ⟨w.heap.size + 1 + 1, 1, none⟩) ∧ W.frozen? ⟨w.heap.size + 1 + 1, 0, none⟩ = false ∧ W.frozen? ⟨w.heap.size + 1 + 1, 1, none⟩ = false ∧ Hid (Held w (w.heap.size) (w.heap.size + 1) (w.heap.size + 1 + 1) s A1 L1 c1 s A2 L2 c2 W))
    (first | assumption | exact HS.out.all | exact HS.out.drew.all | exact (Held.put (held_of (by assumption)) _ _ _ _).all | exact (Held.step (held_of (by assumption)) (by assumption)).all | exact (Held.drew (held_of (by assumption))).all)
    (first
      | (go_at_call 103; ((with_reducible refine (CP.out _ (held_of (by assumption))).mono ?_); rintro e w6 ⟨A6, L6, c6, rfl, hN6, b6⟩)))
  all_goals go_wp2
  all_goals have H6 := HS.out.drew.step b6
  all_goals (try simp only [Exit.inBlock, Exit.then])
  all_goals refine bodyPost_ret (res_c rfl rfl (Held.row H6 _ _ _ _)) rfl ?_
  all_goals exact ⟨_, _, _, rfl, Held.nt H6 _ _ _ _ hN6, (Held.put H6 _ _ _ _).1⟩

set_option maxRecDepth 100000 in
set_option maxHeartbeats 8000000 in
/-- The greater of two numbers of different signs stands first. -/
theorem nplus_ge (s : Bool) (A1 A2 : Option Addr) (L1 c1 n1 L2 c2 n2 : Nat) (m1 : L1 ≤ 300) (m2 : L2 ≤ 300) (hge : n2 ≤ n1) (w : World) (h1 : Nt w w.heap.size A1 L1 c1 n1) (h2 : Nt w w.heap.size A2 L2 c2 n2) :
    Calls Tryz.prog 93 #[.agg #[.bool s, .slice A1 L1 c1], .agg #[.bool (!s), .slice A2 L2 c2]] w fun e w' => ∃ A L c, e = .returned (.agg #[.bool (s && decide (0 < n1 - n2)), .slice A L c]) ∧ Nt w' w'.heap.size A L c (n1 - n2) ∧ Below w.heap.size w w' := by
  obtain ⟨t, ht⟩ : ∃ t, t = !s := ⟨_, rfl⟩
  rw [← ht]
  have hs := held_start w s A1 L1 c1 t A2 L2 c2
  have hcmp : cmpI (n1 : Int) (n2 : Int) = 0 ∨ cmpI (n1 : Int) (n2 : Int) = 1 := by unfold cmpI; split <;> (try split) <;> omega
  have cC := compare_any A1 A2 L1 c1 n1 L2 c2 n2 _ (by omega) _ (h1.kept hs.1) (h2.kept hs.1)
  have cM := fun W (h : Held w (w.heap.size) (w.heap.size + 1) (w.heap.size + 1 + 1) s A1 L1 c1 t A2 L2 c2 W) => minus_any A1 A2 L1 c1 n1 L2 c2 n2 (by omega) (by omega) hge W (h1.kept h.1) (h2.kept h.1)
  have cS := fun (A : Option Addr) (L c : Nat) W (h : Nt W W.heap.size A L c (n1 - n2)) => signed_any s A L c (n1 - n2) W h
  obtain ⟨D, hD⟩ : ∃ D, D = (s && decide (0 < n1 - n2)) := ⟨_, rfl⟩
  obtain ⟨N, hN⟩ : ∃ N, N = n1 - n2 := ⟨_, rfl⟩
  obtain ⟨R, hR⟩ : ∃ R, R = cmpI (n1 : Int) (n2 : Int) := ⟨_, rfl⟩
  rw [← hN] at hD cM cS ⊢
  rw [← hD] at cS ⊢
  rw [← hR] at cC hcmp
  have hR0 : ¬ R < 0 := by rcases hcmp with h | h <;> omega
  have hss : (s == t) = false := by rw [ht]; cases s <;> rfl
  have CM := Lib.hid cM; have CC := Lib.hid cC; have CS := Lib.hid cS
  clear cM cC cS h1 h2 m1 m2 hD hN hR hcmp ht hge
  go_enter Tryz.func93, Tryz.ntmps93
  go_wp2_with (first
    | (go_at_call 107; (with_reducible refine CC.out.mono ?_); rintro e w3 ⟨rfl, rfl⟩)
    | fail)
  generalize (((w.alloc (.cells #[.bool s, .slice A1 L1 c1] 91)).alloc (.cells #[.bool t, .slice A2 L2 c2] 91)).alloc (.cells #[.bool false, .slice none 0 0] 91)) = W0 at hs ⊢
  have HS := Lib.hid hs
  clear hs CC
  go_region_held3 (fun W => Below w.heap.size w W ∧ W.cell? ⟨w.heap.size, 0, none⟩ = some (.bool s) ∧ W.cell? ⟨w.heap.size, 1, none⟩ = some (.slice A1 L1 c1) ∧ W.cell? ⟨w.heap.size + 1, 0, none⟩ = some (.bool t) ∧ W.cell? ⟨w.heap.size + 1, 1, none⟩ = some (.slice A2 L2 c2) ∧ W.cell? ⟨w.heap.size + 1 + 1, 0, none⟩ = some (cellOf W ⟨w.heap.size + 1 + 1, 0, none⟩) ∧ W.cell? ⟨w.heap.size + 1 + 1, 1, none⟩ = some (cellOf W ⟨w.heap.size + 1 + 1, 1, none⟩) ∧ W.frozen? ⟨w.heap.size + 1 + 1, 0, none⟩ = false ∧ W.frozen? ⟨w.heap.size + 1 + 1, 1, none⟩ = false ∧ Hid (Held w (w.heap.size) (w.heap.size + 1) (w.heap.size + 1 + 1) s A1 L1 c1 t A2 L2 c2 W))
    (first | assumption | exact HS.out.all | exact HS.out.drew.all | exact (Held.put (held_of (by assumption)) _ _ _ _).all | exact (Held.step (held_of (by assumption)) (by assumption)).all | exact (Held.drew (held_of (by assumption))).all)
    (first
      | (go_at_call 104; ((with_reducible refine (CM.out _ (held_of (by assumption))).mono ?_); rintro e w5 ⟨A5, L5, c5, rfl, hN5, b5⟩))
      | (go_at_call 105; ((with_reducible refine (CS.out _ _ _ _ (by first | exact hN5 | exact hN5.drawn)).mono ?_); rintro e w6 ⟨rfl, hN6, b6⟩)))
  all_goals go_wp2
  all_goals have H6 := (HS.out.drew.step b5).step b6
  all_goals (try simp only [Exit.inBlock, Exit.then])
  all_goals refine bodyPost_ret (res_c rfl rfl (Held.row H6 _ _ _ _)) rfl ?_
  all_goals exact ⟨_, _, _, rfl, Held.nt H6 _ _ _ _ hN6, (Held.put H6 _ _ _ _).1⟩

set_option maxRecDepth 100000 in
set_option maxHeartbeats 8000000 in
/-- The less of two numbers of different signs stands first. -/
theorem nplus_lt (s : Bool) (A1 A2 : Option Addr) (L1 c1 n1 L2 c2 n2 : Nat) (m1 : L1 ≤ 300) (m2 : L2 ≤ 300) (hlt : n1 < n2) (w : World) (h1 : Nt w w.heap.size A1 L1 c1 n1) (h2 : Nt w w.heap.size A2 L2 c2 n2) :
    Calls Tryz.prog 93 #[.agg #[.bool s, .slice A1 L1 c1], .agg #[.bool (!s), .slice A2 L2 c2]] w fun e w' => ∃ A L c, e = .returned (.agg #[.bool (!s), .slice A L c]) ∧ Nt w' w'.heap.size A L c (n2 - n1) ∧ Below w.heap.size w w' := by
  obtain ⟨t, ht⟩ : ∃ t, t = !s := ⟨_, rfl⟩
  rw [← ht]
  have hs0 := held_start w s A1 L1 c1 t A2 L2 c2
  have hs := held_start w t A2 L2 c2 s A1 L1 c1
  have hcmp : cmpI (n1 : Int) (n2 : Int) = -1 := by unfold cmpI; rw [if_pos (by omega)]
  have cC := compare_any A1 A2 L1 c1 n1 L2 c2 n2 _ (by omega) _ (h1.kept hs0.1) (h2.kept hs0.1)
  have cM := fun W (h : Held w (w.heap.size) (w.heap.size + 1) (w.heap.size + 1 + 1) t A2 L2 c2 s A1 L1 c1 W) => minus_any A2 A1 L2 c2 n2 L1 c1 n1 (by omega) (by omega) (by omega) W (h2.kept h.1) (h1.kept h.1)
  have cS := fun (A : Option Addr) (L c : Nat) W (h : Nt W W.heap.size A L c (n2 - n1)) => signed_any t A L c (n2 - n1) W h
  rw [decide_eq_true (show 0 < n2 - n1 by omega), Bool.and_true] at cS
  obtain ⟨N, hN⟩ : ∃ N, N = n2 - n1 := ⟨_, rfl⟩
  rw [← hN] at cM cS ⊢
  rw [hcmp] at cC
  have hss : (s == t) = false := by rw [ht]; cases s <;> rfl
  have CM := Lib.hid cM; have CC := Lib.hid cC; have CS := Lib.hid cS
  clear cM cC cS h1 h2 m1 m2 hN hcmp ht hlt hs0
  go_enter Tryz.func93, Tryz.ntmps93
  go_wp2_with (first
    | (go_at_call 107; (with_reducible refine CC.out.mono ?_); rintro e w3 ⟨rfl, rfl⟩)
    | fail)
  generalize (((w.alloc (.cells #[.bool t, .slice A2 L2 c2] 91)).alloc (.cells #[.bool s, .slice A1 L1 c1] 91)).alloc (.cells #[.bool false, .slice none 0 0] 91)) = W0 at hs ⊢
  have HS := Lib.hid hs
  clear hs CC
  go_region_held3 (fun W => Below w.heap.size w W ∧ W.cell? ⟨w.heap.size, 0, none⟩ = some (.bool t) ∧ W.cell? ⟨w.heap.size, 1, none⟩ = some (.slice A2 L2 c2) ∧ W.cell? ⟨w.heap.size + 1, 0, none⟩ = some (.bool s) ∧ W.cell? ⟨w.heap.size + 1, 1, none⟩ = some (.slice A1 L1 c1) ∧ W.cell? ⟨w.heap.size + 1 + 1, 0, none⟩ = some (cellOf W ⟨w.heap.size + 1 + 1, 0, none⟩) ∧ W.cell? ⟨w.heap.size + 1 + 1, 1, none⟩ = some (cellOf W ⟨w.heap.size + 1 + 1, 1, none⟩) ∧ W.frozen? ⟨w.heap.size + 1 + 1, 0, none⟩ = false ∧ W.frozen? ⟨w.heap.size + 1 + 1, 1, none⟩ = false ∧ Hid (Held w (w.heap.size) (w.heap.size + 1) (w.heap.size + 1 + 1) t A2 L2 c2 s A1 L1 c1 W))
    (first | assumption | exact HS.out.all | exact HS.out.drew.all | exact (Held.put (held_of (by assumption)) _ _ _ _).all | exact (Held.step (held_of (by assumption)) (by assumption)).all | exact (Held.drew (held_of (by assumption))).all)
    (first
      | (go_at_call 104; ((with_reducible refine (CM.out _ (held_of (by assumption))).mono ?_); rintro e w5 ⟨A5, L5, c5, rfl, hN5, b5⟩))
      | (go_at_call 105; ((with_reducible refine (CS.out _ _ _ _ (by first | exact hN5 | exact hN5.drawn)).mono ?_); rintro e w6 ⟨rfl, hN6, b6⟩)))
  all_goals go_wp2
  all_goals have H6 := (HS.out.drew.step b5).step b6
  all_goals (try simp only [Exit.inBlock, Exit.then])
  all_goals refine bodyPost_ret (res_c rfl rfl (Held.row H6 _ _ _ _)) rfl ?_
  all_goals exact ⟨_, _, _, rfl, Held.nt H6 _ _ _ _ hN6, (Held.put H6 _ _ _ _).1⟩

end Go.Proofs.YtgpncnnlhhmjaaaGreatDoor
namespace Go.Proofs.YtgpncnnlhhmjaaaGreatDoor
open Go.RowKit

theorem sign_zero {x : Int} (h : decide (x < 0) = true) : 0 < x.natAbs := by simp at h; omega
theorem nplus_any (x y : Int) (A1 A2 : Option Addr) (L1 c1 L2 c2 : Nat) (m1 : L1 ≤ 300) (m2 : L2 ≤ 300) (w : World) (h1 : Nt w w.heap.size A1 L1 c1 x.natAbs) (h2 : Nt w w.heap.size A2 L2 c2 y.natAbs) :
    Calls Tryz.prog 93 #[.agg #[.bool (decide (x < 0)), .slice A1 L1 c1], .agg #[.bool (decide (y < 0)), .slice A2 L2 c2]] w fun e w' => ∃ A L c, e = .returned (.agg #[.bool (decide (x + y < 0)), .slice A L c]) ∧ Nt w' w'.heap.size A L c (x + y).natAbs ∧ Below w.heap.size w w' := by
  by_cases hs : decide (x < 0) = decide (y < 0)
  · have hc := nplus_same (decide (x < 0)) A1 A2 L1 c1 _ L2 c2 _ m1 m2 w h1 h2
    rw [hs] at hc ⊢
    rw [show decide (x + y < 0) = decide (y < 0) by rw [decide_eq_decide] at hs ⊢; omega, show (x + y).natAbs = x.natAbs + y.natAbs by rw [decide_eq_decide] at hs; omega]
    exact hc
  · have hn : decide (y < 0) = !decide (x < 0) := by cases h3 : decide (x < 0) <;> cases h4 : decide (y < 0) <;> simp_all
    rw [hn]
    have hn2 : (y < 0) ↔ ¬ x < 0 := by
      have := hn
      simp only [← decide_not, decide_eq_decide] at this
      exact this
    by_cases hle : y.natAbs ≤ x.natAbs
    · have hc := nplus_ge (decide (x < 0)) A1 A2 L1 c1 _ L2 c2 _ m1 m2 hle w h1 h2
      rw [show decide (x + y < 0) = (decide (x < 0) && decide (0 < x.natAbs - y.natAbs)) by
        rw [Bool.eq_iff_iff]; simp only [Bool.and_eq_true, decide_eq_true_eq]; omega, show (x + y).natAbs = x.natAbs - y.natAbs by omega]
      exact hc
    · have hc := nplus_lt (decide (x < 0)) A1 A2 L1 c1 _ L2 c2 _ m1 m2 (by omega) w h1 h2
      rw [show decide (x + y < 0) = (!decide (x < 0)) by rw [Bool.eq_iff_iff]; simp; omega, show (x + y).natAbs = y.natAbs - x.natAbs by omega]
      exact hc

set_option maxRecDepth 100000 in
set_option maxHeartbeats 8000000 in
theorem nminus_any (x y : Int) (A1 A2 : Option Addr) (L1 c1 L2 c2 : Nat) (m1 : L1 ≤ 300) (m2 : L2 ≤ 300) (w : World) (h1 : Nt w w.heap.size A1 L1 c1 x.natAbs) (h2 : Nt w w.heap.size A2 L2 c2 y.natAbs) :
    Calls Tryz.prog 99 #[.agg #[.bool (decide (x < 0)), .slice A1 L1 c1], .agg #[.bool (decide (y < 0)), .slice A2 L2 c2]] w fun e w' => ∃ A L c, e = .returned (.agg #[.bool (decide (x - y < 0)), .slice A L c]) ∧ Nt w' w'.heap.size A L c (x - y).natAbs ∧ Below w.heap.size w w' := by
  obtain ⟨s, hs1⟩ : ∃ s, s = decide (x < 0) := ⟨_, rfl⟩
  obtain ⟨t, ht1⟩ : ∃ t, t = decide (y < 0) := ⟨_, rfl⟩
  obtain ⟨u, hu1⟩ : ∃ u, u = decide (-y < 0) := ⟨_, rfl⟩
  have hu2 : (!t && decide (0 < y.natAbs)) = u := by
    rw [hu1, ht1, Bool.eq_iff_iff]; simp; omega
  have cO := fun W (h : Nt W W.heap.size A2 L2 c2 y.natAbs) => opposite_any t A2 L2 c2 y.natAbs W h
  rw [hu2] at cO
  have cP := fun W (h1 : Nt W W.heap.size A1 L1 c1 x.natAbs) (h2 : Nt W W.heap.size A2 L2 c2 (-y).natAbs) => nplus_any x (-y) A1 A2 L1 c1 L2 c2 m1 m2 W h1 h2
  rw [show (-y).natAbs = y.natAbs by omega, show x + -y = x - y by omega, ← hs1, ← hu1] at cP
  rw [← hs1, ← ht1]
  have hs := held_start w s A1 L1 c1 t A2 L2 c2
  have cO' := fun W (h : Held w (w.heap.size) (w.heap.size + 1) (w.heap.size + 1 + 1) s A1 L1 c1 t A2 L2 c2 W) => cO W (h2.kept h.1)
  have cP' := fun W (h : Held w (w.heap.size) (w.heap.size + 1) (w.heap.size + 1 + 1) s A1 L1 c1 t A2 L2 c2 W) => cP W (h1.kept h.1) (h2.kept h.1)
  obtain ⟨D, hD⟩ : ∃ D, D = decide (x - y < 0) := ⟨_, rfl⟩
  obtain ⟨N, hN⟩ : ∃ N, N = (x - y).natAbs := ⟨_, rfl⟩
  obtain ⟨M, hM⟩ : ∃ M, M = y.natAbs := ⟨_, rfl⟩
  rw [← hD, ← hN] at cP' ⊢
  rw [← hM] at cO'
  have CP := Lib.hid cP'; have CO := Lib.hid cO'
  clear cP' cO' cP cO h1 h2 m1 m2 hD hN hM hs1 ht1 hu1 hu2
  go_enter Tryz.func99, Tryz.ntmps99
  go_wp2
  generalize (((w.alloc (.cells #[.bool s, .slice A1 L1 c1] 91)).alloc (.cells #[.bool t, .slice A2 L2 c2] 91)).alloc (.cells #[.bool false, .slice none 0 0] 91)) = W0 at hs ⊢
  have HS := Lib.hid hs
  clear hs
  go_region_held3 (fun W => Below w.heap.size w W ∧ W.cell? ⟨w.heap.size, 0, none⟩ = some (.bool s) ∧ W.cell? ⟨w.heap.size, 1, none⟩ = some (.slice A1 L1 c1) ∧ W.cell? ⟨w.heap.size + 1, 0, none⟩ = some (.bool t) ∧ W.cell? ⟨w.heap.size + 1, 1, none⟩ = some (.slice A2 L2 c2) ∧ W.cell? ⟨w.heap.size + 1 + 1, 0, none⟩ = some (cellOf W ⟨w.heap.size + 1 + 1, 0, none⟩) ∧ W.cell? ⟨w.heap.size + 1 + 1, 1, none⟩ = some (cellOf W ⟨w.heap.size + 1 + 1, 1, none⟩) ∧ W.frozen? ⟨w.heap.size + 1 + 1, 0, none⟩ = false ∧ W.frozen? ⟨w.heap.size + 1 + 1, 1, none⟩ = false ∧ Hid (Held w (w.heap.size) (w.heap.size + 1) (w.heap.size + 1 + 1) s A1 L1 c1 t A2 L2 c2 W))
    (first | assumption | exact HS.out.all | exact HS.out.drew.all | exact (Held.put (held_of (by assumption)) _ _ _ _).all | exact (Held.step (held_of (by assumption)) (by assumption)).all | exact (Held.drew (held_of (by assumption))).all)
    (first
      | (go_at_call 123; ((with_reducible refine (CO.out _ (held_of (by assumption))).mono ?_); rintro e w5 ⟨rfl, hN5, b5⟩))
      | (go_at_call 93; ((with_reducible refine (CP.out _ (held_of (by assumption))).mono ?_); rintro e w6 ⟨A6, L6, c6, rfl, hN6, b6⟩)))
  all_goals go_wp2
  all_goals have H6 := (HS.out.drew.step b5).step b6
  all_goals (try simp only [Exit.inBlock, Exit.then])
  all_goals refine bodyPost_ret (res_c rfl rfl (Held.row H6 _ _ _ _)) rfl ?_
  all_goals exact ⟨_, _, _, rfl, Held.nt H6 _ _ _ _ hN6, (Held.put H6 _ _ _ _).1⟩

set_option maxRecDepth 100000 in
set_option maxHeartbeats 8000000 in
theorem ntimes_any (x y : Int) (A1 A2 : Option Addr) (L1 c1 L2 c2 : Nat) (m1 : L1 ≤ 300) (m2 : L2 ≤ 300) (w : World) (h1 : Nt w w.heap.size A1 L1 c1 x.natAbs) (h2 : Nt w w.heap.size A2 L2 c2 y.natAbs) :
    Calls Tryz.prog 121 #[.agg #[.bool (decide (x < 0)), .slice A1 L1 c1], .agg #[.bool (decide (y < 0)), .slice A2 L2 c2]] w fun e w' => ∃ A L c, e = .returned (.agg #[.bool (decide (x * y < 0)), .slice A L c]) ∧ Nt w' w'.heap.size A L c (x * y).natAbs ∧ Below w.heap.size w w' := by
  obtain ⟨s, hs1⟩ : ∃ s, s = decide (x < 0) := ⟨_, rfl⟩
  obtain ⟨t, ht1⟩ : ∃ t, t = decide (y < 0) := ⟨_, rfl⟩
  have hD : ((!(s == t)) && decide (0 < x.natAbs * y.natAbs)) = decide (x * y < 0) := by
    rw [hs1, ht1]
    rcases Int.lt_trichotomy x 0 with hx | hx | hx <;> rcases Int.lt_trichotomy y 0 with hy | hy | hy
    · have h3 := Int.mul_pos_of_neg_of_neg hx hy
      rw [decide_eq_true hx, decide_eq_true hy, decide_eq_false (p := x * y < 0) (by omega)]; rfl
    · subst hy; simp
    · have h3 := Int.mul_neg_of_neg_of_pos hx hy
      have h4 : 0 < x.natAbs * y.natAbs := Nat.mul_pos (by omega) (by omega)
      rw [decide_eq_true hx, decide_eq_false (p := y < 0) (by omega), decide_eq_true h3, decide_eq_true h4]; rfl
    · subst hx; simp
    · subst hx; simp
    · subst hx; simp
    · have h3 := Int.mul_neg_of_pos_of_neg hx hy
      have h4 : 0 < x.natAbs * y.natAbs := Nat.mul_pos (by omega) (by omega)
      rw [decide_eq_false (p := x < 0) (by omega), decide_eq_true hy, decide_eq_true h3, decide_eq_true h4]; rfl
    · subst hy; simp
    · have h3 := Int.mul_pos hx hy
      rw [decide_eq_false (p := x < 0) (by omega), decide_eq_false (p := y < 0) (by omega), decide_eq_false (p := x * y < 0) (by omega)]; rfl
  rw [Int.natAbs_mul, ← hD, ← hs1, ← ht1]
  have hs := held_start w s A1 L1 c1 t A2 L2 c2
  have cT := fun W (h : Held w (w.heap.size) (w.heap.size + 1) (w.heap.size + 1 + 1) s A1 L1 c1 t A2 L2 c2 W) => times_any A1 A2 L1 c1 x.natAbs L2 c2 y.natAbs m1 m2 W (h1.kept h.1) (h2.kept h.1)
  have cS := fun (A : Option Addr) (L c : Nat) W (h : Nt W W.heap.size A L c (x.natAbs * y.natAbs)) => signed_any (!(s == t)) A L c (x.natAbs * y.natAbs) W h
  obtain ⟨D, hD⟩ : ∃ D, D = ((!(s == t)) && decide (0 < x.natAbs * y.natAbs)) := ⟨_, rfl⟩
  obtain ⟨N, hN⟩ : ∃ N, N = x.natAbs * y.natAbs := ⟨_, rfl⟩
  rw [← hD] at cS ⊢
  rw [← hN] at cS cT ⊢
  have CT := Lib.hid cT; have CS := Lib.hid cS
  clear cT cS h1 h2 m1 m2 hD hN hs1 ht1
  go_enter Tryz.func121, Tryz.ntmps121
  go_wp2
  generalize (((w.alloc (.cells #[.bool s, .slice A1 L1 c1] 91)).alloc (.cells #[.bool t, .slice A2 L2 c2] 91)).alloc (.cells #[.bool false, .slice none 0 0] 91)) = W0 at hs ⊢
  have HS := Lib.hid hs
  clear hs
  go_region_held3 (fun W => Below w.heap.size w W ∧ W.cell? ⟨w.heap.size, 0, none⟩ = some (.bool s) ∧ W.cell? ⟨w.heap.size, 1, none⟩ = some (.slice A1 L1 c1) ∧ W.cell? ⟨w.heap.size + 1, 0, none⟩ = some (.bool t) ∧ W.cell? ⟨w.heap.size + 1, 1, none⟩ = some (.slice A2 L2 c2) ∧ W.cell? ⟨w.heap.size + 1 + 1, 0, none⟩ = some (cellOf W ⟨w.heap.size + 1 + 1, 0, none⟩) ∧ W.cell? ⟨w.heap.size + 1 + 1, 1, none⟩ = some (cellOf W ⟨w.heap.size + 1 + 1, 1, none⟩) ∧ W.frozen? ⟨w.heap.size + 1 + 1, 0, none⟩ = false ∧ W.frozen? ⟨w.heap.size + 1 + 1, 1, none⟩ = false ∧ Hid (Held w (w.heap.size) (w.heap.size + 1) (w.heap.size + 1 + 1) s A1 L1 c1 t A2 L2 c2 W))
    (first | assumption | exact HS.out.all | exact HS.out.drew.all | exact (Held.put (held_of (by assumption)) _ _ _ _).all | exact (Held.step (held_of (by assumption)) (by assumption)).all | exact (Held.drew (held_of (by assumption))).all)
    (first
      | (go_at_call 143; ((with_reducible refine (CT.out _ (held_of (by assumption))).mono ?_); rintro e w5 ⟨A5, L5, c5, rfl, hN5, b5⟩))
      | (go_at_call 105; ((with_reducible refine (CS.out _ _ _ _ (by first | exact hN5 | exact hN5.drawn)).mono ?_); rintro e w6 ⟨rfl, hN6, b6⟩)))
  all_goals go_wp2
  all_goals have H6 := (HS.out.drew.step b5).step b6
  all_goals (try simp only [Exit.inBlock, Exit.then])
  all_goals refine bodyPost_ret (res_c rfl rfl (Held.row H6 _ _ _ _)) rfl ?_
  all_goals exact ⟨_, _, _, rfl, Held.nt H6 _ _ _ _ hN6, (Held.put H6 _ _ _ _).1⟩
end Go.Proofs.YtgpncnnlhhmjaaaGreatDoor
namespace Go.Proofs.YtgpncnnlhhmjaaaGreatDoor
open Go.RowKit

theorem dec_neg (z : Int) (h : z < 0) : (⟨#[45]⟩ : ByteArray) ++ str (Lib.decDigits z.natAbs) = dec z := by
  rw [dec, Lib.itoa, if_pos h]
  apply ByteArray.ext
  simp [str]
theorem dec_len (n k : Nat) (h : n < 10 ^ (k + 1)) : (str (Lib.decDigits n)).size ≤ k + 1 := (decDigits_len_le n k).2 h

set_option maxRecDepth 100000 in
set_option maxHeartbeats 4000000 in
theorem ntext_any (z : Int) (A : Option Addr) (L c : Nat) (m : L ≤ 900) (hz : (str (Lib.decDigits z.natAbs)).size ≤ 100000) (w : World) (h : Nt w w.heap.size A L c z.natAbs) (ht : Tab w) :
    Calls Tryz.prog 76 #[.agg #[.bool (decide (z < 0)), .slice A L c]] w fun e w' => e = .returned (.string (dec z)) ∧ Below w.heap.size w w' := by
  obtain ⟨s, hs⟩ : ∃ s, s = decide (z < 0) := ⟨_, rfl⟩
  rw [← hs]
  have hb := below_alloc w (.cells #[.bool s, .slice A L c] 91)
  have cT := text_any A L c z.natAbs m (w.alloc (.cells #[.bool s, .slice A L c] 91)) (h.kept hb) (ht.below hb)
  obtain ⟨S, hS⟩ : ∃ S, S = str (Lib.decDigits z.natAbs) := ⟨_, rfl⟩
  obtain ⟨Z, hZ⟩ : ∃ Z, Z = dec z := ⟨_, rfl⟩
  have hneg : s = true → (⟨#[45]⟩ : ByteArray) ++ S = Z := fun h1 => by rw [hS, hZ]; exact dec_neg z (by rw [hs] at h1; simpa using h1)
  have hpos : s = false → S = Z := fun h1 => by
    rw [hS, hZ, dec, Lib.itoa, if_neg (by rw [hs] at h1; simpa using h1)]
    congr 2
    rw [hs] at h1; simp at h1; omega
  rw [← hS] at cT hz
  rw [← hZ]
  have CT := Lib.hid cT; have HB := Lib.hid hb
  clear cT hb hS hZ hs h ht
  cases s
  · have e := hpos rfl
    subst e
    clear hneg hpos
    go_enter Tryz.func76, Tryz.ntmps76
    go_wp2_with (first
      | (go_at_call 106; (with_reducible refine CT.out.mono ?_); rintro e w3 ⟨rfl, hb3⟩)
      | fail)
    go_ret
    exact ⟨rfl, below_step HB.out hb3⟩
  · have e := hneg rfl
    clear hneg hpos
    go_enter Tryz.func76, Tryz.ntmps76
    go_wp2_with (first
      | (go_at_call 106; (with_reducible refine CT.out.mono ?_); rintro e w3 ⟨rfl, hb3⟩)
      | fail)
    go_ret
    exact ⟨rfl, below_step HB.out hb3⟩

set_option maxRecDepth 100000 in
set_option maxHeartbeats 8000000 in
theorem ngcd_any (s t : Bool) (A1 A2 : Option Addr) (L1 c1 n1 L2 c2 n2 : Nat) (m1 : L1 ≤ 300) (m2 : L2 ≤ 300) (w : World) (h1 : Nt w w.heap.size A1 L1 c1 n1) (h2 : Nt w w.heap.size A2 L2 c2 n2) :
    Calls Tryz.prog 89 #[.agg #[.bool s, .slice A1 L1 c1], .agg #[.bool t, .slice A2 L2 c2]] w fun e w' => ∃ A L c, e = .returned (.agg #[.bool false, .slice A L c]) ∧ Nt w' w'.heap.size A L c (Nat.gcd n1 n2) ∧ Below w.heap.size w w' := by
  have hs := held_start w s A1 L1 c1 t A2 L2 c2
  obtain ⟨G, hG⟩ : ∃ G, G = Nat.gcd n1 n2 := ⟨_, rfl⟩
  rw [← hG]
  have HG := Lib.hid hG
  have k1 := h1.kept hs.1
  have k2 := h2.kept hs.1
  have K1 := Lib.hid k1; have K2 := Lib.hid k2
  clear hG k1 k2 h1 h2
  go_enter Tryz.func89, Tryz.ntmps89
  go_wp2
  go_quiet (fail)
  go_wp2
  generalize (((w.alloc (.cells #[.bool s, .slice A1 L1 c1] 91)).alloc (.cells #[.bool t, .slice A2 L2 c2] 91)).alloc (.cells #[.bool false, .slice none 0 0] 91)) = W0 at hs K1 K2 ⊢
  have HS := Lib.hid hs
  clear hs
  go_loopg [5, 6, 7, 8] n2 (fun kx vx vy _ _ wr => ∃ (X Y : Nat) (Ax : Option Addr) (Lx cx : Nat) (Ay : Option Addr) (Ly cy : Nat), vx = .slice Ax Lx cx ∧ vy = .slice Ay Ly cy ∧ Lx ≤ 300 ∧ Ly ≤ 300 ∧ Y ≤ kx ∧ Nt wr wr.heap.size Ax Lx cx X ∧ Nt wr wr.heap.size Ay Ly cy Y ∧
    Hid (G = Nat.gcd X Y) ∧ Hid (Held w w.heap.size (w.heap.size + 1) (w.heap.size + 1 + 1) s A1 L1 c1 t A2 L2 c2 wr))
  case atStart =>
    exact ⟨n1, n2, A1, L1, c1, A2, L2, c2, rfl, rfl, m1, m2, Nat.le_refl _, K1.out.drawnN _, K2.out.drawnN _, HG, Lib.hid (HS.out.drewN _)⟩
  case round =>
    obtain ⟨X, Y, Ax, Lx, cx, Ay, Ly, cy, rfl, rfl, mx, my, hk, hX, hY, HGG, HH⟩ := hrel
    by_cases h0 : Ly = 0
    · have hY0 : Y = 0 := by rw [← grp_nil]; exact List.eq_nil_of_length_eq_zero (by rw [← hY.len]; exact h0)
      have hg : G = X := by rw [HGG.out, hY0, Nat.gcd_zero_right]
      subst hg
      subst h0
      obtain ⟨_, _, _, _, _, k0, k1, f0, f1, _⟩ := HH.out.all
      have HX := Lib.hid hX
      clear hX hY hk
      go_wp2
      (try simp only [Exit.inBlock, Exit.then])
      refine bodyPost_ret (res_c rfl rfl (Held.row HH.out _ _ _ _)) rfl ?_
      exact ⟨_, _, _, rfl, Held.nt HH.out _ _ _ _ HX.out, (Held.put HH.out _ _ _ _).1⟩
    · have hp : 0 < Y := by
        rcases Nat.eq_zero_or_pos Y with h | h
        · exact absurd (by rw [hY.len, h, grp_zero]; rfl) h0
        · exact h
      have l0 : (0 : Int) < (Ly : Int) := by omega
      have cD := divide_any Ax Ay Lx cx X Ly cy Y mx my hp _ hX hY
      have hYb := nt_lt hY
      have hmod : X % Y < Y := Nat.mod_lt _ hp
      have HG2 : Hid (G = Nat.gcd Y (X % Y)) := by
        have := HGG.out
        rw [Nat.gcd_comm X Y, Nat.gcd_rec, Nat.gcd_comm] at this
        exact this
      have CD := Lib.hid cD; have HM := Lib.hid hmod; have HYb := Lib.hid hYb; have HY := Lib.hid hY; have HP := Lib.hid hp
      clear cD hmod hYb hX hY hp HGG
      go_wp2_with (first
        | (go_at_call 102; (with_reducible refine CD.out.mono ?_); rintro e w3 ⟨Aq, Lq, cq, Ar, Lr, cr, rfl, hq, hr, hb3⟩)
        | fail)
      have hLr : Lr ≤ 300 := Nat.le_trans (nt_50 hr (k := Ly) (Nat.lt_trans HM.out HYb.out)) my
      go_roundg (X % Y)
      case measure => have := HM.out; omega
      case rel => exact ⟨Y, X % Y, Ay, Ly, cy, Ar, Lr, cr, rfl, rfl, my, hLr, Nat.le_refl _, HY.out.kept hb3, hr, HG2, Lib.hid (HH.out.step hb3)⟩
end Go.Proofs.YtgpncnnlhhmjaaaGreatDoor
namespace Go.Proofs.YtgpncnnlhhmjaaaGreatDoor
open Go.RowKit

theorem ediv_unique {x y q r : Int} (h : x = q * y + r) (h0 : 0 ≤ r) (h1 : r < y.natAbs) : x / y = q ∧ x % y = r := by
  have hy : y ≠ 0 := by intro e; subst e; simp at h1; omega
  have hd := Int.mul_ediv_add_emod x y
  have hm0 := Int.emod_nonneg x hy
  have hm1 : x % y < y.natAbs := by have := Int.emod_lt x hy; exact this
  have he : (q - x / y) * y = x % y - r := by rw [Int.sub_mul, Int.mul_comm (x / y)]; omega
  have hz : q - x / y = 0 := by
    rcases Int.lt_trichotomy (q - x / y) 0 with h2 | h2 | h2
    · exfalso
      have h3 : (q - x / y).natAbs * y.natAbs = (x % y - r).natAbs := by rw [← Int.natAbs_mul, he]
      have h4 : y.natAbs ≤ (q - x / y).natAbs * y.natAbs := Nat.le_mul_of_pos_left _ (by omega)
      omega
    · exact h2
    · exfalso
      have h3 : (q - x / y).natAbs * y.natAbs = (x % y - r).natAbs := by rw [← Int.natAbs_mul, he]
      have h4 : y.natAbs ≤ (q - x / y).natAbs * y.natAbs := Nat.le_mul_of_pos_left _ (by omega)
      omega
  rw [hz, Int.zero_mul] at he
  exact ⟨by omega, by omega⟩
/-- The quotient's size. -/
def qN (s : Bool) (n1 n2 : Nat) : Nat := if s && decide (0 < n1 % n2) then n1 / n2 + 1 else n1 / n2
/-- The remainder. -/
def rN (s : Bool) (n1 n2 : Nat) : Nat := if s && decide (0 < n1 % n2) then n2 - n1 % n2 else n1 % n2
theorem div_sized (x y : Int) (hy : y ≠ 0) : x / y = (if (!(decide (x < 0) == decide (y < 0))) then -(qN (decide (x < 0)) x.natAbs y.natAbs : Int) else (qN (decide (x < 0)) x.natAbs y.natAbs : Int)) ∧ x % y = (rN (decide (x < 0)) x.natAbs y.natAbs : Int) := by
  obtain ⟨n1, hn1⟩ : ∃ n1, n1 = x.natAbs := ⟨_, rfl⟩
  obtain ⟨n2, hn2⟩ : ∃ n2, n2 = y.natAbs := ⟨_, rfl⟩
  have hp : 0 < n2 := by omega
  have hd := Nat.div_add_mod n1 n2
  have hm := Nat.mod_lt n1 hp
  rw [← hn1, ← hn2]
  have hdz : (n2 : Int) * ((n1 / n2 : Nat) : Int) + ((n1 % n2 : Nat) : Int) = (n1 : Int) := by exact_mod_cast hd
  unfold qN rN
  generalize n1 / n2 = q at *
  generalize n1 % n2 = r at *
  have hcomm := Int.mul_comm (n2 : Int) (q : Int)
  by_cases hx : x < 0 <;> by_cases hy0 : y < 0
  · have ex : x = -(n1 : Int) := by omega
    have ey : y = -(n2 : Int) := by omega
    rw [decide_eq_true hx, decide_eq_true hy0]
    by_cases hr : 0 < r
    · rw [decide_eq_true hr]
      refine ediv_unique ?_ (by simp <;> omega) (by simp <;> omega)
      simp only [Bool.true_and, if_true, beq_self_eq_true, Bool.not_true, Bool.false_eq_true, if_false]
      rw [ex, ey, Int.mul_neg, Int.natCast_add, Int.add_mul]; omega
    · rw [decide_eq_false hr]
      refine ediv_unique ?_ (by simp) (by simp <;> omega)
      simp only [Bool.and_false, beq_self_eq_true, Bool.not_true, Bool.false_eq_true, if_false]
      rw [ex, ey, Int.mul_neg]; omega
  · have ex : x = -(n1 : Int) := by omega
    have ey : y = (n2 : Int) := by omega
    rw [decide_eq_true hx, decide_eq_false hy0]
    by_cases hr : 0 < r
    · rw [decide_eq_true hr]
      refine ediv_unique ?_ (by simp <;> omega) (by simp <;> omega)
      simp only [Bool.true_and, if_true, Bool.not_false, show (true == false) = false from rfl]
      rw [ex, ey, Int.neg_mul, Int.natCast_add, Int.add_mul]; omega
    · rw [decide_eq_false hr]
      refine ediv_unique ?_ (by simp) (by simp <;> omega)
      simp only [Bool.and_false, Bool.not_false, show (true == false) = false from rfl, Bool.false_eq_true, if_false, if_true]
      rw [ex, ey, Int.neg_mul]; omega
  · have ex : x = (n1 : Int) := by omega
    have ey : y = -(n2 : Int) := by omega
    rw [decide_eq_false hx, decide_eq_true hy0]
    refine ediv_unique ?_ (by simp) (by simp <;> omega)
    simp only [Bool.false_and, Bool.not_false, show (false == true) = false from rfl, Bool.false_eq_true, if_false, if_true]
    rw [ex, ey, Int.neg_mul, Int.mul_neg]; omega
  · have ex : x = (n1 : Int) := by omega
    have ey : y = (n2 : Int) := by omega
    rw [decide_eq_false hx, decide_eq_false hy0]
    refine ediv_unique ?_ (by simp) (by simp <;> omega)
    simp only [Bool.false_and, beq_self_eq_true, Bool.not_true, Bool.false_eq_true, if_false]
    rw [ex, ey]; omega

theorem Nt.drawn2 {w : World} {A : Option Addr} {L c n : Nat} (h : Nt w w.heap.size A L c n) : Nt w.drew w.drew.heap.size A L c n := h.drawn
theorem one_new (W : World) : Nt (W.alloc (.cells #[.int .i64 1] 3)) (W.alloc (.cells #[.int .i64 1] 3)).heap.size (some ⟨W.heap.size, 0, none⟩) 1 1 1 := by
  have h1 : grp 1 = [1] := grp_one (by decide) (by decide)
  refine ⟨by rw [h1]; rfl, Nat.le_refl _, by decide, ?_⟩
  rw [h1]
  exact .inr ⟨W.heap.size, 0, rfl, by simp, fun i x hi => by
    match i, hi with
    | 0, hi => cases hi; exact (Row.made W 3 #[.int .i64 1]).at rfl
    | i + 1, hi => simp at hi⟩
/-- The four rows of divide. -/
structure Four (w : World) (s : Bool) (A1 : Option Addr) (L1 c1 : Nat) (t : Bool) (A2 : Option Addr) (L2 c2 : Nat) (W : World) : Prop where
  b : Below w.heap.size w W
  r2 : Row W w.heap.size 91 #[.bool s, .slice A1 L1 c1]
  r3 : Row W (w.heap.size + 1) 91 #[.bool t, .slice A2 L2 c2]
  r4 : Row W (w.heap.size + 1 + 1) 91 #[.bool false, .slice none 0 0]
  r5 : Row W (w.heap.size + 1 + 1 + 1) 91 #[.bool false, .slice none 0 0]
theorem four_start (w : World) (s : Bool) (A1 : Option Addr) (L1 c1 : Nat) (t : Bool) (A2 : Option Addr) (L2 c2 : Nat) :
    Four w s A1 L1 c1 t A2 L2 c2 ((((w.alloc (.cells #[.bool s, .slice A1 L1 c1] 91)).alloc (.cells #[.bool t, .slice A2 L2 c2] 91)).alloc (.cells #[.bool false, .slice none 0 0] 91)).alloc (.cells #[.bool false, .slice none 0 0] 91)) :=
  ⟨(((below_alloc w _).alloc (by simp) _).alloc (by simp; omega) _).alloc (by simp; omega) _, (((Row.made w _ _).later _).later _).later _, ((Row.made_at _ _ _ (by simp)).later _).later _, (Row.made_at _ _ _ (by simp)).later _, Row.made_at _ _ _ (by simp)⟩
section
variable {w W W' : World} {s : Bool} {A1 : Option Addr} {L1 c1 : Nat} {t : Bool} {A2 : Option Addr} {L2 c2 : Nat}
theorem Four.step (h : Four w s A1 L1 c1 t A2 L2 c2 W) (b : Below W.heap.size W W') : Four w s A1 L1 c1 t A2 L2 c2 W' :=
  ⟨below_step h.b b, h.r2.below b h.r2.inside, h.r3.below b h.r3.inside, h.r4.below b h.r4.inside, h.r5.below b h.r5.inside⟩
theorem Four.drew (h : Four w s A1 L1 c1 t A2 L2 c2 W) : Four w s A1 L1 c1 t A2 L2 c2 W.drew := ⟨h.b.drew, h.r2.drawn, h.r3.drawn, h.r4.drawn, h.r5.drawn⟩
end

set_option maxRecDepth 100000 in
set_option maxHeartbeats 8000000 in
theorem ndivide_sized (s t : Bool) (A1 A2 : Option Addr) (L1 c1 n1 L2 c2 n2 : Nat) (m1 : L1 ≤ 300) (m2 : L2 ≤ 300) (h0 : 0 < n2) (w : World) (h1 : Nt w w.heap.size A1 L1 c1 n1) (h2 : Nt w w.heap.size A2 L2 c2 n2) :
    Calls Tryz.prog 75 #[.agg #[.bool s, .slice A1 L1 c1], .agg #[.bool t, .slice A2 L2 c2]] w fun e w' => ∃ Aq Lq cq Ar Lr cr, e = .returned (.tuple #[.agg #[.bool (!(s == t) && decide (0 < qN s n1 n2)), .slice Aq Lq cq], .agg #[.bool false, .slice Ar Lr cr]]) ∧
      Nt w' w'.heap.size Aq Lq cq (qN s n1 n2) ∧ Nt w' w'.heap.size Ar Lr cr (rN s n1 n2) ∧ Below w.heap.size w w' := by
  have hf := four_start w s A1 L1 c1 t A2 L2 c2
  have cD := divide_any A1 A2 L1 c1 n1 L2 c2 n2 m1 m2 h0 _ (h1.kept hf.b) (h2.kept hf.b)
  obtain ⟨Q, hQ⟩ : ∃ Q, Q = n1 / n2 := ⟨_, rfl⟩
  obtain ⟨R, hR⟩ : ∃ R, R = n1 % n2 := ⟨_, rfl⟩
  rw [← hQ, ← hR] at cD
  have hRn : R < n2 := by rw [hR]; exact Nat.mod_lt _ h0
  obtain ⟨QN, hQN⟩ : ∃ QN, QN = qN s n1 n2 := ⟨_, rfl⟩
  obtain ⟨RN, hRN⟩ : ∃ RN, RN = rN s n1 n2 := ⟨_, rfl⟩
  have eQ : QN = if s && decide (0 < R) then Q + 1 else Q := by rw [hQN, qN, ← hQ, ← hR]
  have eR : RN = if s && decide (0 < R) then n2 - R else R := by rw [hRN, rN, ← hR]
  rw [← hQN, ← hRN]
  have cS := fun (A : Option Addr) (L c : Nat) W (h : Nt W W.heap.size A L c QN) => signed_any (!(s == t)) A L c QN W h
  obtain ⟨B, hB⟩ : ∃ B, B = (!(s == t) && decide (0 < QN)) := ⟨_, rfl⟩
  rw [← hB] at cS ⊢
  have hQb : Q ≤ n1 := by rw [hQ]; exact Nat.div_le_self _ _
  have CD := Lib.hid cD; have CS := Lib.hid cS; have EQ := Lib.hid eQ; have ER := Lib.hid eR; have HF := Lib.hid hf; have HRN := Lib.hid hRn; have H1 := Lib.hid h1; have H2 := Lib.hid h2; have HQB := Lib.hid hQb
  clear cD cS eQ eR hf hRn hQ hR hQN hRN hB h1 h2 hQb
  cases s
  · rw [show (!(false == t)) = t by cases t <;> rfl] at CS
    have e1 : QN = Q := EQ.out
    have e2 : RN = R := ER.out
    subst e1 e2
    go_enter Tryz.func75, Tryz.ntmps75
    go_wp2_with (first
      | (go_at_call 102; (with_reducible refine CD.out.mono ?_); rintro e w3 ⟨Aq, Lq, cq, Ar, Lr, cr, rfl, hq, hr, hb3⟩; have hF3 := HF.out.step hb3; obtain ⟨k20, k21, f20, f21⟩ := two_cells hF3.r2; obtain ⟨k30, k31, f30, f31⟩ := two_cells hF3.r3; have HF9 := Lib.hid hF3; have HQ3 := hq; clear hF3)
      | (go_at_call 105; (with_reducible refine (CS.out _ _ _ _ HQ3).mono ?_); rintro e w4 ⟨rfl, hq4, hb4⟩; have hF4 := HF9.out.step hb4; obtain ⟨k40, k41, f40, f41⟩ := two_cells hF4.r4; obtain ⟨k50, k51, f50, f51⟩ := two_cells hF4.r5; have HF4 := Lib.hid hF4; clear hF4)
      | fail)
    (try simp only [Exit.inBlock, Exit.then])
    have v4 := num_put HF4.out.r4 B Aq Lq cq
    have v5 := num_put (num_far HF4.out.r5 (show w.heap.size + 1 + 1 ≠ w.heap.size + 1 + 1 + 1 by omega) (.bool B) (.slice Aq Lq cq)) false Ar Lr cr
    refine bodyPost_ret (res_cc rfl rfl rfl (num_far v4 (show w.heap.size + 1 + 1 + 1 ≠ w.heap.size + 1 + 1 by omega) (.bool false) (.slice Ar Lr cr)) v5) rfl ?_
    refine ⟨_, _, _, _, _, _, rfl, ?_, ?_, below_put (below_put HF4.out.b (by omega) _ _) (by omega) _ _⟩
    · rw [put_size, put_size]
      exact (hq4.put2 HF4.out.r4 B Aq Lq cq).put2 (num_far HF4.out.r5 (show w.heap.size + 1 + 1 ≠ w.heap.size + 1 + 1 + 1 by omega) (.bool B) (.slice Aq Lq cq)) false Ar Lr cr
    · rw [put_size, put_size]
      exact ((hr.kept hb4).put2 HF4.out.r4 B Aq Lq cq).put2 (num_far HF4.out.r5 (show w.heap.size + 1 + 1 ≠ w.heap.size + 1 + 1 + 1 by omega) (.bool B) (.slice Aq Lq cq)) false Ar Lr cr
  · rw [show (!(true == t)) = !t by cases t <;> rfl] at CS
    by_cases h0R : 0 < R
    · have e1 : QN = Q + 1 := by rw [EQ.out, decide_eq_true h0R]; rfl
      have e2 : RN = n2 - R := by rw [ER.out, decide_eq_true h0R]; rfl
      subst e1 e2
      have hne : ∀ (W : World) (B : Nat) (A : Option Addr) (L c : Nat), Nt W B A L c R → (0 : Int) < (L : Int) := fun W B A L c h => by
        have := List.length_pos_iff.2 (grp_ne h0R)
        have h1 := h.len
        omega
      have HNE := Lib.hid hne
      clear hne
      have cP := fun (A : Option Addr) (L c : Nat) (A' : Option Addr) W (hL : L ≤ 300) (h : Nt W W.heap.size A L c Q) (h' : Nt W W.heap.size A' 1 1 1) => plus_any A A' L c Q 1 1 1 (by omega) (by omega) W h h'
      have cM := fun (A : Option Addr) (L c : Nat) W (hL : L ≤ 300) (h : Nt W W.heap.size A L c R) (h' : Nt W W.heap.size A2 L2 c2 n2) => minus_any A2 A L2 c2 n2 L c R (by omega) (by omega) (Nat.le_of_lt HRN.out) W h' h
      have CP := Lib.hid cP; have CM := Lib.hid cM
      have hlq : ∀ (W : World) (B : Nat) (A : Option Addr) (L c : Nat), Nt W B A L c Q → L ≤ 300 := fun W B A L c h => Nat.le_trans (nt_50 h (k := L1) (Nat.lt_of_le_of_lt HQB.out (nt_lt H1.out))) m1
      have hlr : ∀ (W : World) (B : Nat) (A : Option Addr) (L c : Nat), Nt W B A L c R → L ≤ 300 := fun W B A L c h => Nat.le_trans (nt_50 h (k := L2) (Nat.lt_trans HRN.out (nt_lt H2.out))) m2
      have HLQ := Lib.hid hlq; have HLR := Lib.hid hlr
      clear cP cM hlq hlr
      go_enter Tryz.func75, Tryz.ntmps75
      go_wp2_with (first
        | (go_at_call 102; (with_reducible refine CD.out.mono ?_); rintro e w3 ⟨Aq, Lq, cq, Ar, Lr, cr, rfl, hq, hr, hb3⟩; have hF3 := HF.out.step hb3; obtain ⟨k20, k21, f20, f21⟩ := two_cells hF3.r2; obtain ⟨k30, k31, f30, f31⟩ := two_cells hF3.r3; have HF3 := Lib.hid hF3; have l0 := HNE.out _ _ _ _ _ hr; have lq := HLQ.out _ _ _ _ _ hq; have lr := HLR.out _ _ _ _ _ hr; have HQQ := Lib.hid hq; have HRR := Lib.hid hr; clear hF3 hq hr)
        | fail)
      have both : ∀ W, Below w3.heap.size w3 W → (Below w3.heap.size w3 W ∧ W.cell? ⟨w.heap.size + 1, 1, none⟩ = some (.slice A2 L2 c2)) := fun W hb => ⟨hb, ((HF3.out.step hb).r3.at (i := 1) (v := .slice A2 L2 c2) rfl)⟩
      have BOTH := Lib.hid both
      clear both
      go_region_held3 (fun W => Below w3.heap.size w3 W ∧ W.cell? ⟨w.heap.size + 1, 1, none⟩ = some (.slice A2 L2 c2))
        (first | assumption | exact BOTH.out _ (Below.refl _ _).drew | exact BOTH.out _ (below_step (And.left (by assumption)) (by assumption)) | exact BOTH.out _ (keep_alloc (And.left (by assumption)) _) | exact BOTH.out _ ((And.left (by assumption)).drew))
        (first
          | (go_at_call 103; ((with_reducible refine (CP.out _ _ _ _ _ lq (HQQ.out.kept (And.left (by assumption))) (by first | exact one_new _ | exact (one_new _).drawn2 | exact (one_new _).kept b7 | exact (one_new _).drawn2.kept b7 | exact (one_new _).later (Nat.le_refl _) rfl b7)).mono ?_); rintro e w6 ⟨A6, L6, c6, rfl, hN6, b6⟩))
          | (go_at_call 104; ((with_reducible refine (CM.out _ _ _ _ lr (HRR.out.kept (And.left (by assumption))) (H2.out.kept (HF3.out.step (And.left (by assumption))).b)).mono ?_); rintro e w7 ⟨A7, L7, c7, rfl, hN7, b7⟩)))
      have hF9 := HF3.out.step (And.left (by assumption))
      obtain ⟨k20, k21, f20, f21⟩ := two_cells hF9.r2
      obtain ⟨k30, k31, f30, f31⟩ := two_cells hF9.r3
      have HF9 := Lib.hid hF9
      have HQ3 := hN6.kept b7
      clear hF9
      go_wp2_with (first
        | (go_at_call 105; (with_reducible refine (CS.out _ _ _ _ HQ3).mono ?_); rintro e w4 ⟨rfl, hq4, hb4⟩; have hF4 := HF9.out.step hb4; obtain ⟨k40, k41, f40, f41⟩ := two_cells hF4.r4; obtain ⟨k50, k51, f50, f51⟩ := two_cells hF4.r5; have HF4 := Lib.hid hF4; clear hF4)
        | fail)
      (try simp only [Exit.inBlock, Exit.then])
      have v4 := num_put HF4.out.r4 B A6 L6 c6
      have v5 := num_put (num_far HF4.out.r5 (show w.heap.size + 1 + 1 ≠ w.heap.size + 1 + 1 + 1 by omega) (.bool B) (.slice A6 L6 c6)) false A7 L7 c7
      refine bodyPost_ret (res_cc rfl rfl rfl (num_far v4 (show w.heap.size + 1 + 1 + 1 ≠ w.heap.size + 1 + 1 by omega) (.bool false) (.slice A7 L7 c7)) v5) rfl ?_
      refine ⟨_, _, _, _, _, _, rfl, ?_, ?_, below_put (below_put HF4.out.b (by omega) _ _) (by omega) _ _⟩
      · rw [put_size, put_size]
        exact (hq4.put2 HF4.out.r4 B A6 L6 c6).put2 (num_far HF4.out.r5 (show w.heap.size + 1 + 1 ≠ w.heap.size + 1 + 1 + 1 by omega) (.bool B) (.slice A6 L6 c6)) false A7 L7 c7
      · rw [put_size, put_size]
        exact ((hN7.kept hb4).put2 HF4.out.r4 B A6 L6 c6).put2 (num_far HF4.out.r5 (show w.heap.size + 1 + 1 ≠ w.heap.size + 1 + 1 + 1 by omega) (.bool B) (.slice A6 L6 c6)) false A7 L7 c7
    · have hz : R = 0 := by omega
      have e1 : QN = Q := by rw [EQ.out, decide_eq_false h0R, Bool.and_false]; rfl
      have e2 : RN = R := by rw [ER.out, decide_eq_false h0R, Bool.and_false]; rfl
      subst e1 e2
      have hlz : ∀ (W : World) (B : Nat) (A : Option Addr) (L c : Nat), Nt W B A L c RN → L = 0 := fun W B A L c h => by
        rw [h.len, hz, grp_zero]; rfl
      have HLZ := Lib.hid hlz
      clear hlz hz h0R EQ ER
      go_enter Tryz.func75, Tryz.ntmps75
      go_wp2_with (first
        | (go_at_call 102; (with_reducible refine CD.out.mono ?_); rintro e w3 ⟨Aq, Lq, cq, Ar, Lr, cr, rfl, hq, hr, hb3⟩; have hF3 := HF.out.step hb3; obtain ⟨k20, k21, f20, f21⟩ := two_cells hF3.r2; obtain ⟨k30, k31, f30, f31⟩ := two_cells hF3.r3; have HF9 := Lib.hid hF3; have HQ3 := hq; obtain rfl := HLZ.out _ _ _ _ _ hr; clear hF3)
        | (go_at_call 105; (with_reducible refine (CS.out _ _ _ _ HQ3).mono ?_); rintro e w4 ⟨rfl, hq4, hb4⟩; have hF4 := HF9.out.step hb4; obtain ⟨k40, k41, f40, f41⟩ := two_cells hF4.r4; obtain ⟨k50, k51, f50, f51⟩ := two_cells hF4.r5; have HF4 := Lib.hid hF4; clear hF4)
        | fail)
      (try simp only [Exit.inBlock, Exit.then])
      have v4 := num_put HF4.out.r4 B Aq Lq cq
      have v5 := num_put (num_far HF4.out.r5 (show w.heap.size + 1 + 1 ≠ w.heap.size + 1 + 1 + 1 by omega) (.bool B) (.slice Aq Lq cq)) false Ar 0 cr
      refine bodyPost_ret (res_cc rfl rfl rfl (num_far v4 (show w.heap.size + 1 + 1 + 1 ≠ w.heap.size + 1 + 1 by omega) (.bool false) (.slice Ar 0 cr)) v5) rfl ?_
      refine ⟨_, _, _, _, _, _, rfl, ?_, ?_, below_put (below_put HF4.out.b (by omega) _ _) (by omega) _ _⟩
      · rw [put_size, put_size]
        exact (hq4.put2 HF4.out.r4 B Aq Lq cq).put2 (num_far HF4.out.r5 (show w.heap.size + 1 + 1 ≠ w.heap.size + 1 + 1 + 1 by omega) (.bool B) (.slice Aq Lq cq)) false Ar 0 cr
      · rw [put_size, put_size]
        exact ((hr.kept hb4).put2 HF4.out.r4 B Aq Lq cq).put2 (num_far HF4.out.r5 (show w.heap.size + 1 + 1 ≠ w.heap.size + 1 + 1 + 1 by omega) (.bool B) (.slice Aq Lq cq)) false Ar 0 cr
end Go.Proofs.YtgpncnnlhhmjaaaGreatDoor
