/- The exported functions: Compare, Div, Root, FromInt, ToInt. -/
import Derived.Test.YtnehkoedmcnjoaaGreatDoorExp
namespace Go.Proofs.YtnehkoedmcnjoaaGreatDoor
open Go.RowKit

theorem cmpZ_eq (x y : Int) : cmpZ (decide (x < 0)) x.natAbs (decide (y < 0)) y.natAbs = cmpI x y := by
  unfold cmpZ cmpI
  by_cases hx : x < 0 <;> by_cases hy : y < 0 <;> simp only [hx, hy, decide_true, decide_false, if_true, if_false, Bool.false_eq_true]
  · split <;> split <;> (try split) <;> (try split) <;> omega
  · rw [if_pos (by omega)]
  · rw [if_neg (by omega), if_pos (by omega)]
  · split <;> split <;> (try split) <;> (try split) <;> omega

set_option maxRecDepth 100000 in
set_option maxHeartbeats 4000000 in
theorem Compare_any (a b : ByteArray) (w : World) :
    Calls Tryz.prog 23 #[.string a, .string b] w fun e w' => e = .returned (.int .i64 (cmpS a b)) ∧ Below w.heap.size w w' := by
  have cB := fun W => both_any a b W
  cases hv : both a b
  · have e1 : cmpS a b = 0 := by rw [cmpS, hv]; rfl
    rw [e1]
    rw [hv] at cB
    have CB := Lib.hid cB
    clear hv e1 cB
    go_enter Tryz.func23, Tryz.ntmps23
    go_wp2_with (first
      | (go_at_call 36; (with_reducible refine (CB.out _).mono ?_); rintro e w1 ⟨A1, L1, c1, A2, L2, c2, rfl, hN1, hN2, hb1⟩)
      | fail)
    go_ret
    exact ⟨rfl, below_step (below_step hb1 (below_alloc _ _)) (below_alloc _ _)⟩
  · obtain ⟨va, vb⟩ := both_and hv
    have e1 : cmpS a b = cmpZ (sgB a) (szB a) (sgB b) (szB b) := by rw [cmpS, hv, sg_ok va, sg_ok vb, sz_ok va, sz_ok vb, cmpZ_eq]; rfl
    rw [e1]
    rw [hv] at cB
    have cO := fun (A1 A2 : Option Addr) (L1 c1 L2 c2 : Nat) W (h1 : Nt W W.heap.size A1 L1 c1 (szB a)) (h2 : Nt W W.heap.size A2 L2 c2 (szB b)) => ncompare_any (sgB a) (sgB b) A1 A2 L1 c1 (szB a) L2 c2 (szB b) (Nat.le_trans (nt_300 h1) (by decide)) (Nat.le_trans (nt_300 h2) (by decide)) W h1 h2
    obtain ⟨R, hR⟩ : ∃ R, R = cmpZ (sgB a) (szB a) (sgB b) (szB b) := ⟨_, rfl⟩
    rw [← hR] at cO ⊢
    have CB := Lib.hid cB; have CO := Lib.hid cO
    clear hv e1 cB cO va vb hR
    go_enter Tryz.func23, Tryz.ntmps23
    go_wp2_with (first
      | (go_at_call 36; (with_reducible refine (CB.out _).mono ?_); rintro e w1 ⟨A1, L1, c1, A2, L2, c2, rfl, hN1, hN2, hb1⟩; have hb1a := below_step (below_step hb1 (below_alloc w1 (.cells #[.bool (sgB a), .slice A1 L1 c1] 47))) (below_alloc _ (.cells #[.bool (sgB b), .slice A2 L2 c2] 47)))
      | (go_at_call 51; (with_reducible refine (CO.out _ _ _ _ _ _ _ ((hN1.kept (below_alloc _ _)).kept (below_alloc _ _)) ((hN2.kept (below_alloc _ _)).kept (below_alloc _ _))).mono ?_); rintro e w2 ⟨rfl, hb2⟩)
      | fail)
    go_ret
    exact ⟨rfl, below_step hb1a hb2⟩

set_option maxRecDepth 100000 in
set_option maxHeartbeats 4000000 in
theorem FromInt_any (n : Int) (h0 : -9223372036854775808 ≤ n) (h1 : n ≤ 9223372036854775807) (w : World) (ht : Tab w) :
    Calls Tryz.prog 25 #[.int .i64 n] w fun e w' => e = .returned (.string (dec n)) ∧ Below w.heap.size w w' := by
  have cI := itoa_any n h0 h1 w ht
  clear ht h0 h1
  go_enter Tryz.func25, Tryz.ntmps25
  go_wp2_with (first | (go_at_call 52; (with_reducible refine cI.mono ?_); rintro e w1 ⟨rfl, hb1⟩) | fail)
  go_ret
  exact ⟨rfl, hb1⟩

/-- The quotient and the remainder as strings. -/
def divOk (a b : ByteArray) : Bool := both a b && decide (numB b ≠ 0)
def divQ (a b : ByteArray) : ByteArray := if divOk a b then dec (numB a / numB b) else ByteArray.empty
def divR (a b : ByteArray) : ByteArray := if divOk a b then dec (numB a % numB b) else ByteArray.empty
def divE (a b : ByteArray) : Int := if divOk a b then 0 else 30
theorem div_bounds (x y : Int) (hy : y ≠ 0) (k : Nat) (hx : x.natAbs < 10000 ^ k) (hyk : y.natAbs < 10000 ^ k) : (x / y).natAbs < 10000 ^ (k + 1) ∧ (x % y).natAbs < 10000 ^ (k + 1) := by
  have hm0 := Int.emod_nonneg x hy
  have hm1 : x % y < y.natAbs := Int.emod_lt x hy
  have hd := Int.mul_ediv_add_emod x y
  have e : 10000 ^ (k + 1) = 10000 ^ k * 10000 := Nat.pow_succ _ _
  have hp : 0 < 10000 ^ k := Nat.pow_pos (by decide)
  generalize 10000 ^ k = P at *
  refine ⟨?_, by omega⟩
  have h1 : (y * (x / y)).natAbs = y.natAbs * (x / y).natAbs := Int.natAbs_mul _ _
  have h2 : (x / y).natAbs ≤ y.natAbs * (x / y).natAbs := Nat.le_mul_of_pos_left _ (by omega)
  have h3 : (y * (x / y)).natAbs ≤ x.natAbs + y.natAbs := by omega
  omega

set_option maxRecDepth 100000 in
set_option maxHeartbeats 8000000 in
theorem Div_any (a b : ByteArray) (w : World) (ht : Tab w) :
    Calls Tryz.prog 13 #[.string a, .string b] w fun e w' => e = .returned (.tuple #[.string (divQ a b), .string (divR a b), .int .i64 (divE a b)]) ∧ Below w.heap.size w w' := by
  have cB := fun W => both_any a b W
  have cZ := fun (A2 : Option Addr) (L2 c2 : Nat) W (h2 : Nt W W.heap.size A2 L2 c2 (szB b)) => isZero_any (sgB b) A2 L2 c2 (szB b) W h2
  cases hv : both a b
  · have e0 : divOk a b = false := by rw [divOk, hv]; rfl
    have e1 : divQ a b = ByteArray.empty := by rw [divQ, e0]; rfl
    have e2 : divR a b = ByteArray.empty := by rw [divR, e0]; rfl
    have e3 : divE a b = 30 := by rw [divE, e0]; rfl
    rw [e1, e2, e3]
    rw [hv] at cB
    have CB := Lib.hid cB
    clear hv e1 e2 e3 e0 cB cZ ht
    go_enter Tryz.func13, Tryz.ntmps13
    go_wp2_with (first
      | (go_at_call 36; (with_reducible refine (CB.out _).mono ?_); rintro e w1 ⟨A1, L1, c1, A2, L2, c2, rfl, hN1, hN2, hb1⟩)
      | fail)
    go_ret3
    exact ⟨rfl, below_step (below_step hb1 (below_alloc _ _)) (below_alloc _ _)⟩
  · obtain ⟨va, vb⟩ := both_and hv
    rw [hv] at cB
    by_cases hz : numB b = 0
    · have e0 : divOk a b = false := by rw [divOk, hv, decide_eq_false (by simpa using hz)]; rfl
      have e1 : divQ a b = ByteArray.empty := by rw [divQ, e0]; rfl
      have e2 : divR a b = ByteArray.empty := by rw [divR, e0]; rfl
      have e3 : divE a b = 30 := by rw [divE, e0]; rfl
      have e4 : decide (szB b = 0) = true := by rw [sz_ok vb, hz]; rfl
      rw [e1, e2, e3]
      rw [e4] at cZ
      have CB := Lib.hid cB; have CZ := Lib.hid cZ
      clear hv e1 e2 e3 e0 cB cZ ht e4 va vb
      go_enter Tryz.func13, Tryz.ntmps13
      go_wp2_with (first
        | (go_at_call 36; (with_reducible refine (CB.out _).mono ?_); rintro e w1 ⟨A1, L1, c1, A2, L2, c2, rfl, hN1, hN2, hb1⟩)
        | (go_at_call 37; (with_reducible refine (CZ.out _ _ _ _ ((hN2.kept (below_alloc _ _)).kept (below_alloc _ _))).mono ?_); rintro e w2 ⟨rfl, hb2⟩)
        | fail)
      go_ret3
      exact ⟨rfl, below_step (below_step (below_step hb1 (below_alloc _ _)) (below_alloc _ _)) hb2⟩
    · have e0 : divOk a b = true := by rw [divOk, hv, decide_eq_true (by simpa using hz)]; rfl
      have e1 : divQ a b = dec (numB a / numB b) := by rw [divQ, e0]; rfl
      have e2 : divR a b = dec (numB a % numB b) := by rw [divR, e0]; rfl
      have e3 : divE a b = 0 := by rw [divE, e0]; rfl
      have e4 : decide (szB b = 0) = false := by rw [sz_ok vb, decide_eq_false]; omega
      have hbd := div_bounds (numB a) (numB b) hz 50 (num_small a va) (num_small b vb)
      have cO := fun (A1 A2 : Option Addr) (L1 c1 L2 c2 : Nat) W (h1 : Nt W W.heap.size A1 L1 c1 (szB a)) (h2 : Nt W W.heap.size A2 L2 c2 (szB b)) => by
        have m1 := nt_300 h1
        have m2 := nt_300 h2
        rw [sz_ok va] at h1
        rw [sz_ok vb] at h2
        have hc := ndivide_any (numB a) (numB b) hz A1 A2 L1 c1 L2 c2 m1 m2 W h1 h2
        rw [← sg_ok va, ← sg_ok vb] at hc
        exact hc
      rw [e1, e2, e3]
      rw [e4] at cZ
      obtain ⟨q, hq⟩ : ∃ q, q = numB a / numB b := ⟨_, rfl⟩
      obtain ⟨r, hr⟩ : ∃ r, r = numB a % numB b := ⟨_, rfl⟩
      rw [← hq, ← hr] at cO hbd ⊢
      have cTq := fun (A : Option Addr) (L c : Nat) (m : L ≤ 900) W (h : Nt W W.heap.size A L c q.natAbs) (ht : Tab W) => ntext_at q A L c m W h ht
      have cTr := fun (A : Option Addr) (L c : Nat) (m : L ≤ 900) W (h : Nt W W.heap.size A L c r.natAbs) (ht : Tab W) => ntext_at r A L c m W h ht
      have hlq : ∀ (W : World) (B : Nat) (A : Option Addr) (L c : Nat), Nt W B A L c q.natAbs → L ≤ 900 := fun W B A L c h => Nat.le_trans (nt_50 h hbd.1) (by decide)
      have hlr : ∀ (W : World) (B : Nat) (A : Option Addr) (L c : Nat), Nt W B A L c r.natAbs → L ≤ 900 := fun W B A L c h => Nat.le_trans (nt_50 h hbd.2) (by decide)
      obtain ⟨sq, hsq⟩ : ∃ s, s = decide (q < 0) := ⟨_, rfl⟩
      obtain ⟨sr, hsr⟩ : ∃ s, s = decide (r < 0) := ⟨_, rfl⟩
      rw [← hsq] at cO cTq
      rw [← hsr] at cO cTr
      have CB := Lib.hid cB; have CZ := Lib.hid cZ; have CO := Lib.hid cO; have CTQ := Lib.hid cTq; have CTR := Lib.hid cTr; have HLQ := Lib.hid hlq; have HLR := Lib.hid hlr; have HT := Lib.hid ht
      clear hv e1 e2 e3 e0 cB cZ ht e4 va vb cO cTq cTr hq hr hlq hlr hbd hsq hsr hz
      go_enter Tryz.func13, Tryz.ntmps13
      go_wp2_with (first
        | (go_at_call 36; (with_reducible refine (CB.out _).mono ?_); rintro e w1 ⟨A1, L1, c1, A2, L2, c2, rfl, hN1, hN2, hb1⟩; have hb1a := below_step (below_step hb1 (below_alloc w1 (.cells #[.bool (sgB a), .slice A1 L1 c1] 47))) (below_alloc _ (.cells #[.bool (sgB b), .slice A2 L2 c2] 47)))
        | (go_at_call 37; (with_reducible refine (CZ.out _ _ _ _ ((hN2.kept (below_alloc _ _)).kept (below_alloc _ _))).mono ?_); rintro e w2 ⟨rfl, hb2⟩; have q7 := ((Row.made w1 47 #[.bool (sgB a), .slice A1 L1 c1]).later (.cells #[.bool (sgB b), .slice A2 L2 c2] 47)).below hb2 (by simp; omega); have q8 := (Row.made_at (w1.alloc (.cells #[.bool (sgB a), .slice A1 L1 c1] 47)) 47 #[.bool (sgB b), .slice A2 L2 c2] (g := w1.heap.size + 1) (by simp)).below hb2 (by simp); obtain ⟨k70, k71, _, _⟩ := two_cells q7; obtain ⟨k80, k81, _, _⟩ := two_cells q8; have hM1 := ((hN1.kept (below_alloc _ _)).kept (below_alloc _ _)).kept hb2; have hM2 := ((hN2.kept (below_alloc _ _)).kept (below_alloc _ _)).kept hb2; have hb2a := below_step hb1a hb2; clear q7 q8)
        | (go_at_call 38; (with_reducible refine (CO.out _ _ _ _ _ _ _ hM1 hM2).mono ?_); rintro e w3 ⟨A3, L3, c3, A4, L4, c4, rfl, hN3, hN4, hb3⟩)
        | fail)
      obtain ⟨W5, hW5⟩ : ∃ W5, W5 = (w3.alloc (.cells #[.bool sq, .slice A3 L3 c3] 47)).alloc (.cells #[.bool sr, .slice A4 L4 c4] 47) := ⟨_, rfl⟩
      have q10 : Row W5 w3.heap.size 47 #[.bool sq, .slice A3 L3 c3] := by rw [hW5]; exact (Row.made _ _ _).later _
      have q11 : Row W5 (w3.heap.size + 1) 47 #[.bool sr, .slice A4 L4 c4] := by rw [hW5]; exact Row.made_at _ _ _ (by simp)
      have hM3 : Nt W5 W5.heap.size A3 L3 c3 q.natAbs := by rw [hW5]; exact (hN3.kept (below_alloc _ _)).kept (below_alloc _ _)
      have hM4 : Nt W5 W5.heap.size A4 L4 c4 r.natAbs := by rw [hW5]; exact (hN4.kept (below_alloc _ _)).kept (below_alloc _ _)
      have hb5 : Below w.heap.size w W5 := by rw [hW5]; exact below_step (below_step (below_step hb2a hb3) (below_alloc _ _)) (below_alloc _ _)
      have l3 := HLQ.out _ _ _ _ _ hN3
      have l4 := HLR.out _ _ _ _ _ hN4
      rw [← hW5]
      have both5 : ∀ W, Below W5.heap.size W5 W → (Below W5.heap.size W5 W ∧ W.cell? ⟨w3.heap.size, 0, none⟩ = some (.bool sq) ∧ W.cell? ⟨w3.heap.size, 1, none⟩ = some (.slice A3 L3 c3) ∧ W.cell? ⟨w3.heap.size + 1, 0, none⟩ = some (.bool sr) ∧ W.cell? ⟨w3.heap.size + 1, 1, none⟩ = some (.slice A4 L4 c4)) := fun W hb =>
        ⟨hb, (q10.below hb q10.inside).at rfl, (q10.below hb q10.inside).at rfl, (q11.below hb q11.inside).at rfl, (q11.below hb q11.inside).at rfl⟩
      have BOTH := Lib.hid both5
      have HB5 := Lib.hid hb5; have HM3 := Lib.hid hM3; have HM4 := Lib.hid hM4
      clear both5 hb5 hM3 hM4 q10 q11 hW5 hN1 hN2 hM1 hM2 hN3 hN4 hb1 hb1a hb2 hb2a hb3 k70 k71 k80 k81
      go_region_held3 (fun W => Below W5.heap.size W5 W ∧ W.cell? ⟨w3.heap.size, 0, none⟩ = some (.bool sq) ∧ W.cell? ⟨w3.heap.size, 1, none⟩ = some (.slice A3 L3 c3) ∧ W.cell? ⟨w3.heap.size + 1, 0, none⟩ = some (.bool sr) ∧ W.cell? ⟨w3.heap.size + 1, 1, none⟩ = some (.slice A4 L4 c4))
        (first | assumption | exact BOTH.out _ (Below.refl _ _).drew | exact BOTH.out _ (below_step (And.left (by assumption)) (by assumption)) | exact BOTH.out _ ((And.left (by assumption)).drew))
        (first
          | (go_at_call 39; ((with_reducible refine (CTQ.out _ _ _ l3 _ (HM3.out.kept (And.left (by assumption))) ((HT.out.below HB5.out).below (And.left (by assumption)))).mono ?_); rintro e w6 ⟨rfl, b6⟩))
          | (go_at_call 39; ((with_reducible refine (CTR.out _ _ _ l4 _ (HM4.out.kept (And.left (by assumption))) ((HT.out.below HB5.out).below (And.left (by assumption)))).mono ?_); rintro e w7 ⟨rfl, b7⟩)))
      all_goals go_wp2
      all_goals go_ret3
      all_goals exact ⟨rfl, below_step HB5.out (And.left (by assumption))⟩
end Go.Proofs.YtnehkoedmcnjoaaGreatDoor
