/- divide of numbers. -/
import Derived.Test.YtnehkoedmcnjoaaGreatDoorNumD
namespace Go.Proofs.YtnehkoedmcnjoaaGreatDoor
open Go.RowKit

theorem ediv_unique {x y q r : Int} (h : x = q * y + r) (h0 : 0 ≤ r) (h1 : r < y.natAbs) : x / y = q ∧ x % y = r := by
  have hy : y ≠ 0 := by intro e; subst e; simp at h1; omega
  have hd := Int.mul_ediv_add_emod x y
  have hm0 := Int.emod_nonneg x hy
  have hm1 : x % y < y.natAbs := by have := Int.emod_lt x hy; exact this
  have he : (q - x / y) * y = x % y - r := by rw [Int.sub_mul, Int.mul_comm (x / y)]; omega
  have hz : q - x / y = 0 := by
    rcases Int.lt_trichotomy (q - x / y) 0 with h2 | h2 | h2
    · exfalso
      have h3 : (q - x / y).natAbs * y.natAbs = (x % y - r).natAbs := by rw [← Int.natAbs_mul, he]
      have h4 : y.natAbs ≤ (q - x / y).natAbs * y.natAbs := Nat.le_mul_of_pos_left _ (by omega)
      omega
    · exact h2
    · exfalso
      have h3 : (q - x / y).natAbs * y.natAbs = (x % y - r).natAbs := by rw [← Int.natAbs_mul, he]
      have h4 : y.natAbs ≤ (q - x / y).natAbs * y.natAbs := Nat.le_mul_of_pos_left _ (by omega)
      omega
  rw [hz, Int.zero_mul] at he
  exact ⟨by omega, by omega⟩
/-- The quotient's size. -/
def qN (s : Bool) (n1 n2 : Nat) : Nat := if s && decide (0 < n1 % n2) then n1 / n2 + 1 else n1 / n2
/-- The remainder. -/
def rN (s : Bool) (n1 n2 : Nat) : Nat := if s && decide (0 < n1 % n2) then n2 - n1 % n2 else n1 % n2
theorem div_sized (x y : Int) (hy : y ≠ 0) : x / y = (if (!(decide (x < 0) == decide (y < 0))) then -(qN (decide (x < 0)) x.natAbs y.natAbs : Int) else (qN (decide (x < 0)) x.natAbs y.natAbs : Int)) ∧ x % y = (rN (decide (x < 0)) x.natAbs y.natAbs : Int) := by
  obtain ⟨n1, hn1⟩ : ∃ n1, n1 = x.natAbs := ⟨_, rfl⟩
  obtain ⟨n2, hn2⟩ : ∃ n2, n2 = y.natAbs := ⟨_, rfl⟩
  have hp : 0 < n2 := by omega
  have hd := Nat.div_add_mod n1 n2
  have hm := Nat.mod_lt n1 hp
  rw [← hn1, ← hn2]
  have hdz : (n2 : Int) * ((n1 / n2 : Nat) : Int) + ((n1 % n2 : Nat) : Int) = (n1 : Int) := by exact_mod_cast hd
  unfold qN rN
  generalize n1 / n2 = q at *
  generalize n1 % n2 = r at *
  have hcomm := Int.mul_comm (n2 : Int) (q : Int)
  by_cases hx : x < 0 <;> by_cases hy0 : y < 0
  · have ex : x = -(n1 : Int) := by omega
    have ey : y = -(n2 : Int) := by omega
    rw [decide_eq_true hx, decide_eq_true hy0]
    by_cases hr : 0 < r
    · rw [decide_eq_true hr]
      refine ediv_unique ?_ (by simp <;> omega) (by simp <;> omega)
      simp only [Bool.true_and, if_true, beq_self_eq_true, Bool.not_true, Bool.false_eq_true, if_false]
      rw [ex, ey, Int.mul_neg, Int.natCast_add, Int.add_mul]; omega
    · rw [decide_eq_false hr]
      refine ediv_unique ?_ (by simp) (by simp <;> omega)
      simp only [Bool.and_false, beq_self_eq_true, Bool.not_true, Bool.false_eq_true, if_false]
      rw [ex, ey, Int.mul_neg]; omega
  · have ex : x = -(n1 : Int) := by omega
    have ey : y = (n2 : Int) := by omega
    rw [decide_eq_true hx, decide_eq_false hy0]
    by_cases hr : 0 < r
    · rw [decide_eq_true hr]
      refine ediv_unique ?_ (by simp <;> omega) (by simp <;> omega)
      simp only [Bool.true_and, if_true, Bool.not_false, show (true == false) = false from rfl]
      rw [ex, ey, Int.neg_mul, Int.natCast_add, Int.add_mul]; omega
    · rw [decide_eq_false hr]
      refine ediv_unique ?_ (by simp) (by simp <;> omega)
      simp only [Bool.and_false, Bool.not_false, show (true == false) = false from rfl, Bool.false_eq_true, if_false, if_true]
      rw [ex, ey, Int.neg_mul]; omega
  · have ex : x = (n1 : Int) := by omega
    have ey : y = -(n2 : Int) := by omega
    rw [decide_eq_false hx, decide_eq_true hy0]
    refine ediv_unique ?_ (by simp) (by simp <;> omega)
    simp only [Bool.false_and, Bool.not_false, show (false == true) = false from rfl, Bool.false_eq_true, if_false, if_true]
    rw [ex, ey, Int.neg_mul, Int.mul_neg]; omega
  · have ex : x = (n1 : Int) := by omega
    have ey : y = (n2 : Int) := by omega
    rw [decide_eq_false hx, decide_eq_false hy0]
    refine ediv_unique ?_ (by simp) (by simp <;> omega)
    simp only [Bool.false_and, beq_self_eq_true, Bool.not_true, Bool.false_eq_true, if_false]
    rw [ex, ey]; omega

theorem Nt.drawn2 {w : World} {A : Option Addr} {L c n : Nat} (h : Nt w w.heap.size A L c n) : Nt w.drew w.drew.heap.size A L c n := h.drawn
theorem one_new (W : World) : Nt (W.alloc (.cells #[.int .i64 1] 3)) (W.alloc (.cells #[.int .i64 1] 3)).heap.size (some ⟨W.heap.size, 0, none⟩) 1 1 1 := by
  have h1 : grp 1 = [1] := grp_one (by decide) (by decide)
  refine ⟨by rw [h1]; rfl, Nat.le_refl _, by decide, ?_⟩
  rw [h1]
  exact .inr ⟨W.heap.size, 0, rfl, by simp, fun i x hi => by
    match i, hi with
    | 0, hi => cases hi; exact (Row.made W 3 #[.int .i64 1]).at rfl
    | i + 1, hi => simp at hi⟩
/-- The four rows of divide. -/
structure Four (w : World) (s : Bool) (A1 : Option Addr) (L1 c1 : Nat) (t : Bool) (A2 : Option Addr) (L2 c2 : Nat) (W : World) : Prop where
  b : Below w.heap.size w W
  r2 : Row W w.heap.size 47 #[.bool s, .slice A1 L1 c1]
  r3 : Row W (w.heap.size + 1) 47 #[.bool t, .slice A2 L2 c2]
  r4 : Row W (w.heap.size + 1 + 1) 47 #[.bool false, .slice none 0 0]
  r5 : Row W (w.heap.size + 1 + 1 + 1) 47 #[.bool false, .slice none 0 0]
theorem four_start (w : World) (s : Bool) (A1 : Option Addr) (L1 c1 : Nat) (t : Bool) (A2 : Option Addr) (L2 c2 : Nat) :
    Four w s A1 L1 c1 t A2 L2 c2 ((((w.alloc (.cells #[.bool s, .slice A1 L1 c1] 47)).alloc (.cells #[.bool t, .slice A2 L2 c2] 47)).alloc (.cells #[.bool false, .slice none 0 0] 47)).alloc (.cells #[.bool false, .slice none 0 0] 47)) :=
  ⟨(((below_alloc w _).alloc (by simp) _).alloc (by simp; omega) _).alloc (by simp; omega) _, (((Row.made w _ _).later _).later _).later _, ((Row.made_at _ _ _ (by simp)).later _).later _, (Row.made_at _ _ _ (by simp)).later _, Row.made_at _ _ _ (by simp)⟩
section
variable {w W W' : World} {s : Bool} {A1 : Option Addr} {L1 c1 : Nat} {t : Bool} {A2 : Option Addr} {L2 c2 : Nat}
theorem Four.step (h : Four w s A1 L1 c1 t A2 L2 c2 W) (b : Below W.heap.size W W') : Four w s A1 L1 c1 t A2 L2 c2 W' :=
  ⟨below_step h.b b, h.r2.below b h.r2.inside, h.r3.below b h.r3.inside, h.r4.below b h.r4.inside, h.r5.below b h.r5.inside⟩
theorem Four.drew (h : Four w s A1 L1 c1 t A2 L2 c2 W) : Four w s A1 L1 c1 t A2 L2 c2 W.drew := ⟨h.b.drew, h.r2.drawn, h.r3.drawn, h.r4.drawn, h.r5.drawn⟩
end

set_option maxRecDepth 100000 in
set_option maxHeartbeats 8000000 in
theorem ndivide_sized (s t : Bool) (A1 A2 : Option Addr) (L1 c1 n1 L2 c2 n2 : Nat) (m1 : L1 ≤ 300) (m2 : L2 ≤ 300) (h0 : 0 < n2) (w : World) (h1 : Nt w w.heap.size A1 L1 c1 n1) (h2 : Nt w w.heap.size A2 L2 c2 n2) :
    Calls Tryz.prog 38 #[.agg #[.bool s, .slice A1 L1 c1], .agg #[.bool t, .slice A2 L2 c2]] w fun e w' => ∃ Aq Lq cq Ar Lr cr, e = .returned (.tuple #[.agg #[.bool (!(s == t) && decide (0 < qN s n1 n2)), .slice Aq Lq cq], .agg #[.bool false, .slice Ar Lr cr]]) ∧
      Nt w' w'.heap.size Aq Lq cq (qN s n1 n2) ∧ Nt w' w'.heap.size Ar Lr cr (rN s n1 n2) ∧ Below w.heap.size w w' := by
  have hf := four_start w s A1 L1 c1 t A2 L2 c2
  have cD := divide_any A1 A2 L1 c1 n1 L2 c2 n2 m1 m2 h0 _ (h1.kept hf.b) (h2.kept hf.b)
  obtain ⟨Q, hQ⟩ : ∃ Q, Q = n1 / n2 := ⟨_, rfl⟩
  obtain ⟨R, hR⟩ : ∃ R, R = n1 % n2 := ⟨_, rfl⟩
  rw [← hQ, ← hR] at cD
  have hRn : R < n2 := by rw [hR]; exact Nat.mod_lt _ h0
  obtain ⟨QN, hQN⟩ : ∃ QN, QN = qN s n1 n2 := ⟨_, rfl⟩
  obtain ⟨RN, hRN⟩ : ∃ RN, RN = rN s n1 n2 := ⟨_, rfl⟩
  have eQ : QN = if s && decide (0 < R) then Q + 1 else Q := by rw [hQN, qN, ← hQ, ← hR]
  have eR : RN = if s && decide (0 < R) then n2 - R else R := by rw [hRN, rN, ← hR]
  rw [← hQN, ← hRN]
  have cS := fun (A : Option Addr) (L c : Nat) W (h : Nt W W.heap.size A L c QN) => signed_any (!(s == t)) A L c QN W h
  obtain ⟨B, hB⟩ : ∃ B, B = (!(s == t) && decide (0 < QN)) := ⟨_, rfl⟩
  rw [← hB] at cS ⊢
  have hQb : Q ≤ n1 := by rw [hQ]; exact Nat.div_le_self _ _
  have CD := Lib.hid cD; have CS := Lib.hid cS; have EQ := Lib.hid eQ; have ER := Lib.hid eR; have HF := Lib.hid hf; have HRN := Lib.hid hRn; have H1 := Lib.hid h1; have H2 := Lib.hid h2; have HQB := Lib.hid hQb
  clear cD cS eQ eR hf hRn hQ hR hQN hRN hB h1 h2 hQb
  cases s
  · rw [show (!(false == t)) = t by cases t <;> rfl] at CS
    have e1 : QN = Q := EQ.out
    have e2 : RN = R := ER.out
    subst e1 e2
    go_enter Tryz.func38, Tryz.ntmps38
    go_wp2_with (first
      | (go_at_call 59; (with_reducible refine CD.out.mono ?_); rintro e w3 ⟨Aq, Lq, cq, Ar, Lr, cr, rfl, hq, hr, hb3⟩; have hF3 := HF.out.step hb3; obtain ⟨k20, k21, f20, f21⟩ := two_cells hF3.r2; obtain ⟨k30, k31, f30, f31⟩ := two_cells hF3.r3; have HF9 := Lib.hid hF3; have HQ3 := hq; clear hF3)
      | (go_at_call 55; (with_reducible refine (CS.out _ _ _ _ HQ3).mono ?_); rintro e w4 ⟨rfl, hq4, hb4⟩; have hF4 := HF9.out.step hb4; obtain ⟨k40, k41, f40, f41⟩ := two_cells hF4.r4; obtain ⟨k50, k51, f50, f51⟩ := two_cells hF4.r5; have HF4 := Lib.hid hF4; clear hF4)
      | fail)
    (try simp only [Exit.inBlock, Exit.then])
    have v4 := num_put HF4.out.r4 B Aq Lq cq
    have v5 := num_put (num_far HF4.out.r5 (show w.heap.size + 1 + 1 ≠ w.heap.size + 1 + 1 + 1 by omega) (.bool B) (.slice Aq Lq cq)) false Ar Lr cr
    refine bodyPost_ret (res_cc rfl rfl rfl (num_far v4 (show w.heap.size + 1 + 1 + 1 ≠ w.heap.size + 1 + 1 by omega) (.bool false) (.slice Ar Lr cr)) v5) rfl ?_
    refine ⟨_, _, _, _, _, _, rfl, ?_, ?_, below_put (below_put HF4.out.b (by omega) _ _) (by omega) _ _⟩
    · rw [put_size, put_size]
      exact (hq4.put2 HF4.out.r4 B Aq Lq cq).put2 (num_far HF4.out.r5 (show w.heap.size + 1 + 1 ≠ w.heap.size + 1 + 1 + 1 by omega) (.bool B) (.slice Aq Lq cq)) false Ar Lr cr
    · rw [put_size, put_size]
      exact ((hr.kept hb4).put2 HF4.out.r4 B Aq Lq cq).put2 (num_far HF4.out.r5 (show w.heap.size + 1 + 1 ≠ w.heap.size + 1 + 1 + 1 by omega) (.bool B) (.slice Aq Lq cq)) false Ar Lr cr
  · rw [show (!(true == t)) = !t by cases t <;> rfl] at CS
    by_cases h0R : 0 < R
    · have e1 : QN = Q + 1 := by rw [EQ.out, decide_eq_true h0R]; rfl
      have e2 : RN = n2 - R := by rw [ER.out, decide_eq_true h0R]; rfl
      subst e1 e2
      have hne : ∀ (W : World) (B : Nat) (A : Option Addr) (L c : Nat), Nt W B A L c R → (0 : Int) < (L : Int) := fun W B A L c h => by
        have := List.length_pos_iff.2 (grp_ne h0R)
        have h1 := h.len
        omega
      have HNE := Lib.hid hne
      clear hne
      have cP := fun (A : Option Addr) (L c : Nat) (A' : Option Addr) W (hL : L ≤ 300) (h : Nt W W.heap.size A L c Q) (h' : Nt W W.heap.size A' 1 1 1) => plus_any A A' L c Q 1 1 1 (by omega) (by omega) W h h'
      have cM := fun (A : Option Addr) (L c : Nat) W (hL : L ≤ 300) (h : Nt W W.heap.size A L c R) (h' : Nt W W.heap.size A2 L2 c2 n2) => minus_any A2 A L2 c2 n2 L c R (by omega) (by omega) (Nat.le_of_lt HRN.out) W h' h
      have CP := Lib.hid cP; have CM := Lib.hid cM
      have hlq : ∀ (W : World) (B : Nat) (A : Option Addr) (L c : Nat), Nt W B A L c Q → L ≤ 300 := fun W B A L c h => Nat.le_trans (nt_50 h (k := L1) (Nat.lt_of_le_of_lt HQB.out (nt_lt H1.out))) m1
      have hlr : ∀ (W : World) (B : Nat) (A : Option Addr) (L c : Nat), Nt W B A L c R → L ≤ 300 := fun W B A L c h => Nat.le_trans (nt_50 h (k := L2) (Nat.lt_trans HRN.out (nt_lt H2.out))) m2
      have HLQ := Lib.hid hlq; have HLR := Lib.hid hlr
      clear cP cM hlq hlr
      go_enter Tryz.func38, Tryz.ntmps38
      go_wp2_with (first
        | (go_at_call 59; (with_reducible refine CD.out.mono ?_); rintro e w3 ⟨Aq, Lq, cq, Ar, Lr, cr, rfl, hq, hr, hb3⟩; have hF3 := HF.out.step hb3; obtain ⟨k20, k21, f20, f21⟩ := two_cells hF3.r2; obtain ⟨k30, k31, f30, f31⟩ := two_cells hF3.r3; have HF3 := Lib.hid hF3; have l0 := HNE.out _ _ _ _ _ hr; have lq := HLQ.out _ _ _ _ _ hq; have lr := HLR.out _ _ _ _ _ hr; have HQQ := Lib.hid hq; have HRR := Lib.hid hr; clear hF3 hq hr)
        | fail)
      have both : ∀ W, Below w3.heap.size w3 W → (Below w3.heap.size w3 W ∧ W.cell? ⟨w.heap.size + 1, 1, none⟩ = some (.slice A2 L2 c2)) := fun W hb => ⟨hb, ((HF3.out.step hb).r3.at (i := 1) (v := .slice A2 L2 c2) rfl)⟩
      have BOTH := Lib.hid both
      clear both
      go_region_held3 (fun W => Below w3.heap.size w3 W ∧ W.cell? ⟨w.heap.size + 1, 1, none⟩ = some (.slice A2 L2 c2))
        (first | assumption | exact BOTH.out _ (Below.refl _ _).drew | exact BOTH.out _ (below_step (And.left (by assumption)) (by assumption)) | exact BOTH.out _ (keep_alloc (And.left (by assumption)) _) | exact BOTH.out _ ((And.left (by assumption)).drew))
        (first
          | (go_at_call 53; ((with_reducible refine (CP.out _ _ _ _ _ lq (HQQ.out.kept (And.left (by assumption))) (by first | exact one_new _ | exact (one_new _).drawn2 | exact (one_new _).kept b7 | exact (one_new _).drawn2.kept b7 | exact (one_new _).later (Nat.le_refl _) rfl b7)).mono ?_); rintro e w6 ⟨A6, L6, c6, rfl, hN6, b6⟩))
          | (go_at_call 56; ((with_reducible refine (CM.out _ _ _ _ lr (HRR.out.kept (And.left (by assumption))) (H2.out.kept (HF3.out.step (And.left (by assumption))).b)).mono ?_); rintro e w7 ⟨A7, L7, c7, rfl, hN7, b7⟩)))
      have hF9 := HF3.out.step (And.left (by assumption))
      obtain ⟨k20, k21, f20, f21⟩ := two_cells hF9.r2
      obtain ⟨k30, k31, f30, f31⟩ := two_cells hF9.r3
      have HF9 := Lib.hid hF9
      have HQ3 := hN6.kept b7
      clear hF9
      go_wp2_with (first
        | (go_at_call 55; (with_reducible refine (CS.out _ _ _ _ HQ3).mono ?_); rintro e w4 ⟨rfl, hq4, hb4⟩; have hF4 := HF9.out.step hb4; obtain ⟨k40, k41, f40, f41⟩ := two_cells hF4.r4; obtain ⟨k50, k51, f50, f51⟩ := two_cells hF4.r5; have HF4 := Lib.hid hF4; clear hF4)
        | fail)
      (try simp only [Exit.inBlock, Exit.then])
      have v4 := num_put HF4.out.r4 B A6 L6 c6
      have v5 := num_put (num_far HF4.out.r5 (show w.heap.size + 1 + 1 ≠ w.heap.size + 1 + 1 + 1 by omega) (.bool B) (.slice A6 L6 c6)) false A7 L7 c7
      refine bodyPost_ret (res_cc rfl rfl rfl (num_far v4 (show w.heap.size + 1 + 1 + 1 ≠ w.heap.size + 1 + 1 by omega) (.bool false) (.slice A7 L7 c7)) v5) rfl ?_
      refine ⟨_, _, _, _, _, _, rfl, ?_, ?_, below_put (below_put HF4.out.b (by omega) _ _) (by omega) _ _⟩
      · rw [put_size, put_size]
        exact (hq4.put2 HF4.out.r4 B A6 L6 c6).put2 (num_far HF4.out.r5 (show w.heap.size + 1 + 1 ≠ w.heap.size + 1 + 1 + 1 by omega) (.bool B) (.slice A6 L6 c6)) false A7 L7 c7
      · rw [put_size, put_size]
        exact ((hN7.kept hb4).put2 HF4.out.r4 B A6 L6 c6).put2 (num_far HF4.out.r5 (show w.heap.size + 1 + 1 ≠ w.heap.size + 1 + 1 + 1 by omega) (.bool B) (.slice A6 L6 c6)) false A7 L7 c7
    · have hz : R = 0 := by omega
      have e1 : QN = Q := by rw [EQ.out, decide_eq_false h0R, Bool.and_false]; rfl
      have e2 : RN = R := by rw [ER.out, decide_eq_false h0R, Bool.and_false]; rfl
      subst e1 e2
      have hlz : ∀ (W : World) (B : Nat) (A : Option Addr) (L c : Nat), Nt W B A L c RN → L = 0 := fun W B A L c h => by
        rw [h.len, hz, grp_zero]; rfl
      have HLZ := Lib.hid hlz
      clear hlz hz h0R EQ ER
      go_enter Tryz.func38, Tryz.ntmps38
      go_wp2_with (first
        | (go_at_call 59; (with_reducible refine CD.out.mono ?_); rintro e w3 ⟨Aq, Lq, cq, Ar, Lr, cr, rfl, hq, hr, hb3⟩; have hF3 := HF.out.step hb3; obtain ⟨k20, k21, f20, f21⟩ := two_cells hF3.r2; obtain ⟨k30, k31, f30, f31⟩ := two_cells hF3.r3; have HF9 := Lib.hid hF3; have HQ3 := hq; obtain rfl := HLZ.out _ _ _ _ _ hr; clear hF3)
        | (go_at_call 55; (with_reducible refine (CS.out _ _ _ _ HQ3).mono ?_); rintro e w4 ⟨rfl, hq4, hb4⟩; have hF4 := HF9.out.step hb4; obtain ⟨k40, k41, f40, f41⟩ := two_cells hF4.r4; obtain ⟨k50, k51, f50, f51⟩ := two_cells hF4.r5; have HF4 := Lib.hid hF4; clear hF4)
        | fail)
      (try simp only [Exit.inBlock, Exit.then])
      have v4 := num_put HF4.out.r4 B Aq Lq cq
      have v5 := num_put (num_far HF4.out.r5 (show w.heap.size + 1 + 1 ≠ w.heap.size + 1 + 1 + 1 by omega) (.bool B) (.slice Aq Lq cq)) false Ar 0 cr
      refine bodyPost_ret (res_cc rfl rfl rfl (num_far v4 (show w.heap.size + 1 + 1 + 1 ≠ w.heap.size + 1 + 1 by omega) (.bool false) (.slice Ar 0 cr)) v5) rfl ?_
      refine ⟨_, _, _, _, _, _, rfl, ?_, ?_, below_put (below_put HF4.out.b (by omega) _ _) (by omega) _ _⟩
      · rw [put_size, put_size]
        exact (hq4.put2 HF4.out.r4 B Aq Lq cq).put2 (num_far HF4.out.r5 (show w.heap.size + 1 + 1 ≠ w.heap.size + 1 + 1 + 1 by omega) (.bool B) (.slice Aq Lq cq)) false Ar 0 cr
      · rw [put_size, put_size]
        exact ((hr.kept hb4).put2 HF4.out.r4 B Aq Lq cq).put2 (num_far HF4.out.r5 (show w.heap.size + 1 + 1 ≠ w.heap.size + 1 + 1 + 1 by omega) (.bool B) (.slice Aq Lq cq)) false Ar 0 cr
end Go.Proofs.YtnehkoedmcnjoaaGreatDoor
