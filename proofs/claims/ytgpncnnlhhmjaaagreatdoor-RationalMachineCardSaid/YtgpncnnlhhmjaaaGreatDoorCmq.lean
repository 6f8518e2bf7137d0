/- Compare: whole parts, then the remainders upside down; back to a label. strings.Cut at a slash; Parse. Compare, of all arguments; the operations at fractions that are known. -/
import Derived.Test.YtgpncnnlhhmjaaaGreatDoorJoin
import Derived.ScopeJumps
import Derived.WalkMore
import Derived.Test.YtgpncnnlhhmjaaaGreatDoorRnd
namespace Go.Proofs.YtgpncnnlhhmjaaaGreatDoor
open Go.RowKit

theorem cmpI_lt {a b : Int} (h : a < b) : cmpI a b = -1 := by rw [cmpI, if_pos h]
theorem cmpI_gt {a b : Int} (h : b < a) : cmpI a b = 1 := by rw [cmpI, if_neg (by omega), if_pos h]
theorem cmpI_same (a : Int) : cmpI a a = 0 := by rw [cmpI, if_neg (by omega), if_neg (by omega)]
/-- One round of the comparison. -/
theorem cmp_round {x y m c : Int} (hy : 0 < y) (hc : 0 < c) :
    (x / y ≠ m / c ∧ cmpI (x / y) (m / c) = cmpI (x * c) (m * y)) ∨
    (x / y = m / c ∧ (x % y = 0 ∨ m % c = 0) ∧ cmpI (x % y) (m % c) = cmpI (x * c) (m * y)) ∨
    (x / y = m / c ∧ 0 < x % y ∧ 0 < m % c ∧ cmpI (c * (x % y)) (y * (m % c)) = cmpI (x * c) (m * y)) := by
  have e1 := div_mul x y
  have e2 := div_mul m c
  have l1 := Int.emod_nonneg x (show y ≠ 0 by omega)
  have l2 := Int.emod_nonneg m (show c ≠ 0 by omega)
  have u1 := Int.emod_lt_of_pos x hy
  have u2 := Int.emod_lt_of_pos m hc
  generalize x / y = q at *
  generalize x % y = r at *
  generalize m / c = p at *
  generalize m % c = s at *
  have x1 : x * c = q * (y * c) + r * c := by rw [← e1, Int.add_mul, Int.mul_assoc]
  have x2 : m * y = p * (y * c) + s * y := by rw [← e2, Int.add_mul, Int.mul_assoc, Int.mul_comm c y]
  have b1 : r * c < y * c := Int.mul_lt_mul_of_pos_right u1 hc
  have b2 : s * y < y * c := by rw [Int.mul_comm y c]; exact Int.mul_lt_mul_of_pos_right u2 hy
  have b3 : 0 ≤ r * c := Int.mul_nonneg l1 (by omega)
  have b4 : 0 ≤ s * y := Int.mul_nonneg l2 (by omega)
  rw [x1, x2]
  by_cases hq : q = p
  · subst hq
    by_cases h0 : r = 0 ∨ s = 0
    · refine Or.inr (Or.inl ⟨rfl, h0, ?_⟩)
      rcases h0 with h | h
      · subst h
        by_cases hs : s = 0
        · subst hs; rw [Int.zero_mul, Int.zero_mul, cmpI_same, cmpI_same]
        · have : 0 < s * y := Int.mul_pos (by omega) hy
          rw [Int.zero_mul, cmpI_lt (by omega), cmpI_lt (by omega)]
      · subst h
        by_cases hs : r = 0
        · subst hs; rw [Int.zero_mul, Int.zero_mul, cmpI_same, cmpI_same]
        · have : 0 < r * c := Int.mul_pos (by omega) hc
          rw [Int.zero_mul, cmpI_gt (by omega), cmpI_gt (by omega)]
    · refine Or.inr (Or.inr ⟨rfl, by omega, by omega, ?_⟩)
      rw [Int.mul_comm c r, Int.mul_comm y s]
      unfold cmpI
      congr 1
      · simp only [eq_iff_iff]; omega
      · congr 1
        simp only [eq_iff_iff]; omega
  · refine Or.inl ⟨hq, ?_⟩
    rcases Int.lt_or_gt_of_ne hq with h | h
    · have : (q + 1) * (y * c) ≤ p * (y * c) := Int.mul_le_mul_of_nonneg_right (by omega) (by have := Int.mul_pos hy hc; omega)
      rw [Int.add_mul, Int.one_mul] at this
      rw [cmpI_lt h, cmpI_lt (by omega)]
    · have : (p + 1) * (y * c) ≤ q * (y * c) := Int.mul_le_mul_of_nonneg_right (by omega) (by have := Int.mul_pos hy hc; omega)
      rw [Int.add_mul, Int.one_mul] at this
      rw [cmpI_gt h, cmpI_gt (by omega)]
/-- What a round of Compare does with the texts of its fractions. -/
def Rnd (X Y M C : ByteArray) (R : Int) (z : Nat) : Prop :=
  divE X Y = 0 ∧ divE M C = 0 ∧
    ((divQ X Y ≠ divQ M C ∧ cmpS (divQ X Y) (divQ M C) = R) ∨
     (divQ X Y = divQ M C ∧ divR X Y = ⟨#[48]⟩ ∧ cmpS ⟨#[48]⟩ (divR M C) = R) ∨
     (divQ X Y = divQ M C ∧ divR X Y ≠ ⟨#[48]⟩ ∧ divR M C = ⟨#[48]⟩ ∧ cmpS (divR X Y) ⟨#[48]⟩ = R) ∨
     (divQ X Y = divQ M C ∧ divR X Y ≠ ⟨#[48]⟩ ∧ divR M C ≠ ⟨#[48]⟩ ∧ ∃ x y m c : Int, C = dec x ∧ divR M C = dec y ∧ Y = dec m ∧ divR X Y = dec c ∧ fits x = true ∧ fits y = true ∧ fits m = true ∧ fits c = true ∧ 0 < y ∧ 0 < c ∧ cmpI (x * c) (m * y) = R ∧ y.toNat + c.toNat < z))
theorem rnd_of {x y m c R : Int} (fx : fits x = true) (fy : fits y = true) (fm : fits m = true) (fc : fits c = true) (hy : 0 < y) (hc : 0 < c) (h : cmpI (x * c) (m * y) = R) : Rnd (dec x) (dec y) (dec m) (dec c) R (y.toNat + c.toNat) := by
  obtain ⟨q1, r1, e1⟩ := div_dec fx fy (show y ≠ 0 by omega)
  obtain ⟨q2, r2, e2⟩ := div_dec fm fc (show c ≠ 0 by omega)
  have fq1 : fits (x / y) = true := fits_le fx (Int.natAbs_ediv_le_natAbs _ _)
  have fq2 : fits (m / c) = true := fits_le fm (Int.natAbs_ediv_le_natAbs _ _)
  have l1 := Int.emod_nonneg x (show y ≠ 0 by omega)
  have l2 := Int.emod_nonneg m (show c ≠ 0 by omega)
  have u1 := Int.emod_lt_of_pos x hy
  have u2 := Int.emod_lt_of_pos m hc
  have fr1 : fits (x % y) = true := fits_le fy (by omega)
  have fr2 : fits (m % c) = true := fits_le fc (by omega)
  have f0 : fits 0 = true := fits_tiny (by decide)
  have ne0 : ∀ {z : Int}, z ≠ 0 → dec z ≠ ⟨#[48]⟩ := fun h e => h (dec_inj (by rw [e, l0]))
  refine ⟨e1, e2, ?_⟩
  rw [q1, q2, r1, r2, ← h]
  rcases cmp_round (x := x) (m := m) hy hc with ⟨h1, h2⟩ | ⟨h1, h2, h3⟩ | ⟨h1, h2, h3, h4⟩
  · exact Or.inl ⟨fun e => h1 (dec_inj e), by rw [cmp_dec fq1 fq2, h2]⟩
  · by_cases h5 : x % y = 0
    · refine Or.inr (Or.inl ⟨by rw [h1], by rw [h5, l0], ?_⟩)
      rw [l0, cmp_dec f0 fr2, ← h3, h5]
    · have h6 : m % c = 0 := by omega
      refine Or.inr (Or.inr (Or.inl ⟨by rw [h1], ne0 h5, by rw [h6, l0], ?_⟩))
      rw [l0, cmp_dec fr1 f0, ← h3, h6]
  · exact Or.inr (Or.inr (Or.inr ⟨by rw [h1], ne0 (by omega), ne0 (by omega), c, m % c, y, x % y, rfl, rfl, rfl, rfl, fc, fr2, fy, fr1, h3, h2, h4, by omega⟩))
def txtN : Option Value → Nat
  | some (.string s) => (numB s).toNat
  | _ => 0
/-- Where Compare's label is come to. -/
def At (w : World) (R : Int) (W : World) : Prop := ∃ x y m c : Int, Below w.heap.size w W ∧ RRow W w.heap.size (dec x) (dec y) ∧ RRow W (w.heap.size + 1) (dec m) (dec c) ∧ fits x = true ∧ fits y = true ∧ fits m = true ∧ fits c = true ∧ 0 < y ∧ 0 < c ∧ cmpI (x * c) (m * y) = R
/-- From the texts X Y M C: what a round finds. -/
def AtX (w : World) (R : Int) (X Y M C : ByteArray) (z : Nat) (W : World) : Prop := Below w.heap.size w W ∧ RRow W w.heap.size X Y ∧ RRow W (w.heap.size + 1) M C ∧ Rnd X Y M C R z
theorem At.texts {w W : World} {R : Int} (h : At w R W) : ∃ X Y M C z, AtX w R X Y M C z W ∧ z = txtN (W.cell? ⟨w.heap.size, 1, none⟩) + txtN (W.cell? ⟨w.heap.size + 1, 1, none⟩) := by
  obtain ⟨x, y, m, c, hb, r1, r2, fx, fy, fm, fc, hy, hc, h⟩ := h
  refine ⟨_, _, _, _, _, ⟨hb, r1, r2, rnd_of fx fy fm fc hy hc h⟩, ?_⟩
  rw [(two_cells r1).2.1, (two_cells r2).2.1, txtN, txtN, num_dec, num_dec]
theorem AtX.step {w W W' : World} {R : Int} {X Y M C : ByteArray} {z : Nat} (h : AtX w R X Y M C z W) (hb : Below W.heap.size W W') : AtX w R X Y M C z W' := ⟨below_step h.1 hb, Row.over h.2.1 hb, Row.over h.2.2.1 hb, h.2.2.2⟩
theorem AtX.eqs {w W : World} {R : Int} {X Y M C : ByteArray} {z : Nat} (h : AtX w R X Y M C z W) : W.cell? ⟨w.heap.size, 0, none⟩ = some (.string X) ∧ W.cell? ⟨w.heap.size, 1, none⟩ = some (.string Y) ∧ W.cell? ⟨w.heap.size + 1, 0, none⟩ = some (.string M) ∧ W.cell? ⟨w.heap.size + 1, 1, none⟩ = some (.string C) ∧ W.frozen? ⟨w.heap.size, 0, none⟩ = false ∧ W.frozen? ⟨w.heap.size, 1, none⟩ = false ∧ W.frozen? ⟨w.heap.size + 1, 0, none⟩ = false ∧ W.frozen? ⟨w.heap.size + 1, 1, none⟩ = false := by
  obtain ⟨k0, k1, f0, f1⟩ := two_cells h.2.1
  obtain ⟨l0, l1, g0, g1⟩ := two_cells h.2.2.1
  exact ⟨k0, k1, l0, l1, f0, f1, g0, g1⟩
theorem AtX.b {w W : World} {R : Int} {X Y M C : ByteArray} {z : Nat} (h : AtX w R X Y M C z W) : Below w.heap.size w W := h.1
/-- Behind the round that goes back. -/
theorem AtX.next {w W : World} {R : Int} {X Y M C : ByteArray} {z : Nat} (h : AtX w R X Y M C z W) (x y m c : Int) (fx : fits x = true) (fy : fits y = true) (fm : fits m = true) (fc : fits c = true) (hy : 0 < y) (hc : 0 < c) (hR : cmpI (x * c) (m * y) = R) (hz : y.toNat + c.toNat < z) :
    At w R ((((W.setCell ⟨w.heap.size, 0, none⟩ (.string (dec x))).setCell ⟨w.heap.size, 1, none⟩ (.string (dec y))).setCell ⟨w.heap.size + 1, 0, none⟩ (.string (dec m))).setCell ⟨w.heap.size + 1, 1, none⟩ (.string (dec c))) ∧
    txtN (((((W.setCell ⟨w.heap.size, 0, none⟩ (.string (dec x))).setCell ⟨w.heap.size, 1, none⟩ (.string (dec y))).setCell ⟨w.heap.size + 1, 0, none⟩ (.string (dec m))).setCell ⟨w.heap.size + 1, 1, none⟩ (.string (dec c))).cell? ⟨w.heap.size, 1, none⟩) +
    txtN (((((W.setCell ⟨w.heap.size, 0, none⟩ (.string (dec x))).setCell ⟨w.heap.size, 1, none⟩ (.string (dec y))).setCell ⟨w.heap.size + 1, 0, none⟩ (.string (dec m))).setCell ⟨w.heap.size + 1, 1, none⟩ (.string (dec c))).cell? ⟨w.heap.size + 1, 1, none⟩) < z := by
  have r1 := num_far (rat_put ⟨_, _, h.2.1⟩ (dec x) (dec y)) (show w.heap.size + 1 ≠ w.heap.size by omega) (.string (dec m)) (.string (dec c))
  have r2 := rat_put ⟨_, _, num_far h.2.2.1 (show w.heap.size ≠ w.heap.size + 1 by omega) (.string (dec x)) (.string (dec y))⟩ (dec m) (dec c)
  refine ⟨⟨x, y, m, c, below_put (below_put h.1 (Nat.le_refl _) _ _) (Nat.le_succ _) _ _, r1, r2, fx, fy, fm, fc, hy, hc, hR⟩, ?_⟩
  rw [(two_cells r1).2.1, (two_cells r2).2.1, txtN, txtN, num_dec, num_dec]
  exact hz

set_option maxRecDepth 1000000 in
set_option maxHeartbeats 8000000 in
theorem cmp_valid (n1 d1 n2 d2 : ByteArray) (R : Int) (w : World) (ht : Tab w) (v1 : validR n1 d1 = true) (v2 : validR n2 d2 = true)
    (hs : At w R ((w.alloc (.cells #[.string n1, .string d1] 23)).alloc (.cells #[.string n2, .string d2] 23))) :
    Calls Tryz.prog 20 #[rv n1 d1, rv n2 d2] w fun e w' => e = .returned (.int .i64 R) ∧ Below w.heap.size w w' := by
  have cV := fun W (h : Tab W) => valid_rat n1 d1 W h
  have cU := fun W (h : Tab W) => valid_rat n2 d2 W h
  rw [v1] at cV
  rw [v2] at cU
  have CV := Lib.hid cV; have CU := Lib.hid cU; have HS := Lib.hid hs; have T0 := Lib.hid ht
  clear cV cU v1 v2 hs ht
  go_enter Tryz.func20, Tryz.ntmps20
  go_wp2
  refine wp_scope_jumps 0 (fun a' W => At w R W ∧ ∃ (u4 u5 u6 u7 u8 u9 u10 u11 u12 u13 u14 u15 u16 u17 u18 u19 u20 u21 u22 u23 u24 u25 u26 u27 u28 u29 u30 u31 u32 u33 u34 u35 u36 u37 u38 u39 u40 u41 u42 u43 u44 u45 u46 u47 u48 u49 u50 u51 u52 u53 u54 u55 u56 u57 u58 u59 : Value), a' = { tmps := #[rv n1 d1, rv n2 d2, .pointer (some ⟨w.heap.size, 0, none⟩), .pointer (some ⟨w.heap.size + 1, 0, none⟩), u4, u5, u6, u7, u8, u9, u10, u11, u12, u13, u14, u15, u16, u17, u18, u19, u20, u21, u22, u23, u24, u25, u26, u27, u28, u29, u30, u31, u32, u33, u34, u35, u36, u37, u38, u39, u40, u41, u42, u43, u44, u45, u46, u47, u48, u49, u50, u51, u52, u53, u54, u55, u56, u57, u58, u59], defers := [] }) (fun _ W => txtN (W.cell? ⟨w.heap.size, 1, none⟩) + txtN (W.cell? ⟨w.heap.size + 1, 1, none⟩)) rfl ?_ ?_
  · obtain ⟨X, Y, M, C, z, hi, hz⟩ := HS.out.texts
    have k1 := hi.eqs
    have j1 := two_cells (Row.later (Row.made w 23 #[.string n1, .string d1]) (.cells #[.string n2, .string d2] 23))
    have j2 := two_cells (Row.made_at (w.alloc (.cells #[.string n1, .string d1] 23)) 23 #[.string n2, .string d2] (g := w.heap.size + 1) (by simp))
    obtain rfl : X = n1 := by have := k1.1.symm.trans j1.1; simpa using this
    obtain rfl : Y = d1 := by have := k1.2.1.symm.trans j1.2.1; simpa using this
    obtain rfl : M = n2 := by have := k1.2.2.1.symm.trans j2.1; simpa using this
    obtain rfl : C = d2 := by have := k1.2.2.2.1.symm.trans j2.2.1; simpa using this
    have HI := Lib.hid hi; have TI := Lib.hid (T0.out.below hi.b)
    clear k1 j1 j2 hi hz HS
    go_wp2_with (first
      | (go_at_call 29; (with_reducible refine (CV.out _ TI.out).mono ?_); rintro e wa ⟨rfl, hba⟩; have HA := AtX.step HI.out hba; have TA := Lib.hid (TI.out.below hba); obtain ⟨p1, p2, p3, p4, p5, p6, p7, p8⟩ := HA.eqs)
      | (go_at_call 29; (with_reducible refine (CU.out _ TA.out).mono ?_); rintro e wb ⟨rfl, hbb⟩; have hX := AtX.step HA hbb; have TX := Lib.hid (TA.out.below hbb))
      | fail)
    clear p1 p2 p3 p4 p5 p6 p7 p8 HA HI TI TA CV CU
    go_step3
    obtain ⟨x1, x2, x3, x4, x5, x6, x7, x8⟩ := hX.eqs
    have cA := fun W (h : Tab W) => Div_any X Y W h
    have cB := fun W (h : Tab W) => Div_any M C W h
    obtain ⟨e1, e2, hcase⟩ := hX.2.2.2
    rw [e1] at cA
    rw [e2] at cB
    obtain ⟨Q1, hQ1⟩ : ∃ Q1, Q1 = divQ X Y := ⟨_, rfl⟩
    obtain ⟨R1, hR1⟩ : ∃ R1, R1 = divR X Y := ⟨_, rfl⟩
    obtain ⟨Q2, hQ2⟩ : ∃ Q2, Q2 = divQ M C := ⟨_, rfl⟩
    obtain ⟨R2, hR2⟩ : ∃ R2, R2 = divR M C := ⟨_, rfl⟩
    rw [← hQ1, ← hQ2, ← hR1, ← hR2] at hcase
    rw [← hQ1, ← hR1] at cA
    rw [← hQ2, ← hR2] at cB
    have CA := Lib.hid cA; have CB := Lib.hid cB; have HX := Lib.hid hX
    clear cA cB hQ1 hQ2 hR1 hR2 e1 e2 hX
    rcases hcase with ⟨c1, c2⟩ | ⟨c1, c2, c3⟩ | ⟨c1, c2, c3, c4⟩ | ⟨c1, c2, c3, x, y, m, c, g1, g2, g3, g4, g5, g6, g7, g8, g9, g10, g11, g12⟩
    · have cC := fun W => Compare_any Q1 Q2 W
      rw [c2] at cC
      have CC := Lib.hid cC
      have n1 := ne_list c1
      clear cC c2
      go_wp2_with (first
        | (go_at_call 50; (with_reducible refine (CA.out _ TX.out).mono ?_); rintro e w2 ⟨rfl, hb2⟩; have TX2 := Lib.hid (TX.out.below hb2); have H2 := AtX.step HX.out hb2; obtain ⟨y1, y2, y3, y4, y5, y6, y7, y8⟩ := H2.eqs)
        | (go_at_call 50; (with_reducible refine (CB.out _ TX2.out).mono ?_); rintro e w3 ⟨rfl, hb3⟩; have H3 := AtX.step H2 hb3; obtain ⟨z1, z2, z3, z4, z5, z6, z7, z8⟩ := H3.eqs)
        | (go_at_call 51; (with_reducible refine (CC.out _).mono ?_); rintro e w4 ⟨rfl, hb4⟩)
        | fail)
      simp only [Exit.jump]
      go_ret
      exact ⟨rfl, below_step H3.b hb4⟩
    · subst c1 c2
      have cC := fun W => Compare_any ⟨#[48]⟩ R2 W
      rw [c3] at cC
      have CC := Lib.hid cC
      clear cC c3
      go_wp2_with (first
        | (go_at_call 50; (with_reducible refine (CA.out _ TX.out).mono ?_); rintro e w2 ⟨rfl, hb2⟩; have TX2 := Lib.hid (TX.out.below hb2); have H2 := AtX.step HX.out hb2; obtain ⟨y1, y2, y3, y4, y5, y6, y7, y8⟩ := H2.eqs)
        | (go_at_call 50; (with_reducible refine (CB.out _ TX2.out).mono ?_); rintro e w3 ⟨rfl, hb3⟩; have H3 := AtX.step H2 hb3; obtain ⟨z1, z2, z3, z4, z5, z6, z7, z8⟩ := H3.eqs)
        | (go_at_call 51; (with_reducible refine (CC.out _).mono ?_); rintro e w4 ⟨rfl, hb4⟩)
        | fail)
      simp only [Exit.jump]
      go_ret
      exact ⟨rfl, below_step H3.b hb4⟩
    · subst c1 c3
      have cC := fun W => Compare_any R1 ⟨#[48]⟩ W
      rw [c4] at cC
      have CC := Lib.hid cC
      have n1 := ne_zero c2
      clear cC c4
      go_wp2_with (first
        | (go_at_call 50; (with_reducible refine (CA.out _ TX.out).mono ?_); rintro e w2 ⟨rfl, hb2⟩; have TX2 := Lib.hid (TX.out.below hb2); have H2 := AtX.step HX.out hb2; obtain ⟨y1, y2, y3, y4, y5, y6, y7, y8⟩ := H2.eqs)
        | (go_at_call 50; (with_reducible refine (CB.out _ TX2.out).mono ?_); rintro e w3 ⟨rfl, hb3⟩; have H3 := AtX.step H2 hb3; obtain ⟨z1, z2, z3, z4, z5, z6, z7, z8⟩ := H3.eqs)
        | (go_at_call 51; (with_reducible refine (CC.out _).mono ?_); rintro e w4 ⟨rfl, hb4⟩)
        | fail)
      simp only [Exit.jump]
      go_ret
      exact ⟨rfl, below_step H3.b hb4⟩
    · subst c1
      have n1 := ne_zero c2
      have n2 := ne_zero c3
      have G := Lib.hid (show C = dec x ∧ R2 = dec y ∧ Y = dec m ∧ R1 = dec c from ⟨g1, g2, g3, g4⟩)
      have GN := Lib.hid (show fits x = true ∧ fits y = true ∧ fits m = true ∧ fits c = true ∧ 0 < y ∧ 0 < c ∧ cmpI (x * c) (m * y) = R ∧ y.toNat + c.toNat < z from ⟨g5, g6, g7, g8, g9, g10, g11, g12⟩)
      clear g1 g2 g3 g4 g5 g6 g7 g8 g9 g10 g11 g12
      go_wp2_with (first
        | (go_at_call 50; (with_reducible refine (CA.out _ TX.out).mono ?_); rintro e w2 ⟨rfl, hb2⟩; have TX2 := Lib.hid (TX.out.below hb2); have H2 := AtX.step HX.out hb2; obtain ⟨y1, y2, y3, y4, y5, y6, y7, y8⟩ := H2.eqs)
        | (go_at_call 50; (with_reducible refine (CB.out _ TX2.out).mono ?_); rintro e w3 ⟨rfl, hb3⟩; have H3 := AtX.step H2 hb3; obtain ⟨z1, z2, z3, z4, z5, z6, z7, z8⟩ := H3.eqs)
        | fail)
      go_step3
      obtain ⟨q5, q6, q7, q8, q9, q10, q11, q12⟩ := GN.out
      have NX := AtX.next H3 x y m c q5 q6 q7 q8 q9 q10 q11 q12
      rw [← G.out.1, ← G.out.2.1, ← G.out.2.2.1, ← G.out.2.2.2] at NX
      exact ⟨rfl, NX.1, ⟨_, _, _, _, _, _, _, _, _, _, _, _, _, _, _, _, _, _, _, _, _, _, _, _, _, _, _, _, _, _, _, _, _, _, _, _, _, _, _, _, _, _, _, _, _, _, _, _, _, _, _, _, _, _, _, _, rfl⟩⟩
  · rintro a' W ⟨hA, u4, u5, u6, u7, u8, u9, u10, u11, u12, u13, u14, u15, u16, u17, u18, u19, u20, u21, u22, u23, u24, u25, u26, u27, u28, u29, u30, u31, u32, u33, u34, u35, u36, u37, u38, u39, u40, u41, u42, u43, u44, u45, u46, u47, u48, u49, u50, u51, u52, u53, u54, u55, u56, u57, u58, u59, rfl⟩
    obtain ⟨X, Y, M, C, z, hX, hz⟩ := hA.texts
    have TX := Lib.hid (T0.out.below hX.b)
    have HZ := Lib.hid hz
    clear hA hz
    obtain ⟨x1, x2, x3, x4, x5, x6, x7, x8⟩ := hX.eqs
    have cA := fun W (h : Tab W) => Div_any X Y W h
    have cB := fun W (h : Tab W) => Div_any M C W h
    obtain ⟨e1, e2, hcase⟩ := hX.2.2.2
    rw [e1] at cA
    rw [e2] at cB
    obtain ⟨Q1, hQ1⟩ : ∃ Q1, Q1 = divQ X Y := ⟨_, rfl⟩
    obtain ⟨R1, hR1⟩ : ∃ R1, R1 = divR X Y := ⟨_, rfl⟩
    obtain ⟨Q2, hQ2⟩ : ∃ Q2, Q2 = divQ M C := ⟨_, rfl⟩
    obtain ⟨R2, hR2⟩ : ∃ R2, R2 = divR M C := ⟨_, rfl⟩
    rw [← hQ1, ← hQ2, ← hR1, ← hR2] at hcase
    rw [← hQ1, ← hR1] at cA
    rw [← hQ2, ← hR2] at cB
    have CA := Lib.hid cA; have CB := Lib.hid cB; have HX := Lib.hid hX
    clear cA cB hQ1 hQ2 hR1 hR2 e1 e2 hX
    rcases hcase with ⟨c1, c2⟩ | ⟨c1, c2, c3⟩ | ⟨c1, c2, c3, c4⟩ | ⟨c1, c2, c3, x, y, m, c, g1, g2, g3, g4, g5, g6, g7, g8, g9, g10, g11, g12⟩
    · have cC := fun W => Compare_any Q1 Q2 W
      rw [c2] at cC
      have CC := Lib.hid cC
      have n1 := ne_list c1
      clear cC c2
      go_wp2_with (first
        | (go_at_call 50; (with_reducible refine (CA.out _ TX.out).mono ?_); rintro e w2 ⟨rfl, hb2⟩; have TX2 := Lib.hid (TX.out.below hb2); have H2 := AtX.step HX.out hb2; obtain ⟨y1, y2, y3, y4, y5, y6, y7, y8⟩ := H2.eqs)
        | (go_at_call 50; (with_reducible refine (CB.out _ TX2.out).mono ?_); rintro e w3 ⟨rfl, hb3⟩; have H3 := AtX.step H2 hb3; obtain ⟨z1, z2, z3, z4, z5, z6, z7, z8⟩ := H3.eqs)
        | (go_at_call 51; (with_reducible refine (CC.out _).mono ?_); rintro e w4 ⟨rfl, hb4⟩)
        | fail)
      simp only [Exit.jump]
      go_ret
      exact ⟨rfl, below_step H3.b hb4⟩
    · subst c1 c2
      have cC := fun W => Compare_any ⟨#[48]⟩ R2 W
      rw [c3] at cC
      have CC := Lib.hid cC
      clear cC c3
      go_wp2_with (first
        | (go_at_call 50; (with_reducible refine (CA.out _ TX.out).mono ?_); rintro e w2 ⟨rfl, hb2⟩; have TX2 := Lib.hid (TX.out.below hb2); have H2 := AtX.step HX.out hb2; obtain ⟨y1, y2, y3, y4, y5, y6, y7, y8⟩ := H2.eqs)
        | (go_at_call 50; (with_reducible refine (CB.out _ TX2.out).mono ?_); rintro e w3 ⟨rfl, hb3⟩; have H3 := AtX.step H2 hb3; obtain ⟨z1, z2, z3, z4, z5, z6, z7, z8⟩ := H3.eqs)
        | (go_at_call 51; (with_reducible refine (CC.out _).mono ?_); rintro e w4 ⟨rfl, hb4⟩)
        | fail)
      simp only [Exit.jump]
      go_ret
      exact ⟨rfl, below_step H3.b hb4⟩
    · subst c1 c3
      have cC := fun W => Compare_any R1 ⟨#[48]⟩ W
      rw [c4] at cC
      have CC := Lib.hid cC
      have n1 := ne_zero c2
      clear cC c4
      go_wp2_with (first
        | (go_at_call 50; (with_reducible refine (CA.out _ TX.out).mono ?_); rintro e w2 ⟨rfl, hb2⟩; have TX2 := Lib.hid (TX.out.below hb2); have H2 := AtX.step HX.out hb2; obtain ⟨y1, y2, y3, y4, y5, y6, y7, y8⟩ := H2.eqs)
        | (go_at_call 50; (with_reducible refine (CB.out _ TX2.out).mono ?_); rintro e w3 ⟨rfl, hb3⟩; have H3 := AtX.step H2 hb3; obtain ⟨z1, z2, z3, z4, z5, z6, z7, z8⟩ := H3.eqs)
        | (go_at_call 51; (with_reducible refine (CC.out _).mono ?_); rintro e w4 ⟨rfl, hb4⟩)
        | fail)
      simp only [Exit.jump]
      go_ret
      exact ⟨rfl, below_step H3.b hb4⟩
    · subst c1
      have n1 := ne_zero c2
      have n2 := ne_zero c3
      have G := Lib.hid (show C = dec x ∧ R2 = dec y ∧ Y = dec m ∧ R1 = dec c from ⟨g1, g2, g3, g4⟩)
      have GN := Lib.hid (show fits x = true ∧ fits y = true ∧ fits m = true ∧ fits c = true ∧ 0 < y ∧ 0 < c ∧ cmpI (x * c) (m * y) = R ∧ y.toNat + c.toNat < z from ⟨g5, g6, g7, g8, g9, g10, g11, g12⟩)
      clear g1 g2 g3 g4 g5 g6 g7 g8 g9 g10 g11 g12
      go_wp2_with (first
        | (go_at_call 50; (with_reducible refine (CA.out _ TX.out).mono ?_); rintro e w2 ⟨rfl, hb2⟩; have TX2 := Lib.hid (TX.out.below hb2); have H2 := AtX.step HX.out hb2; obtain ⟨y1, y2, y3, y4, y5, y6, y7, y8⟩ := H2.eqs)
        | (go_at_call 50; (with_reducible refine (CB.out _ TX2.out).mono ?_); rintro e w3 ⟨rfl, hb3⟩; have H3 := AtX.step H2 hb3; obtain ⟨z1, z2, z3, z4, z5, z6, z7, z8⟩ := H3.eqs)
        | fail)
      go_step3
      obtain ⟨q5, q6, q7, q8, q9, q10, q11, q12⟩ := GN.out
      have NX := AtX.next H3 x y m c q5 q6 q7 q8 q9 q10 q11 q12
      rw [← G.out.1, ← G.out.2.1, ← G.out.2.2.1, ← G.out.2.2.2] at NX
      exact ⟨rfl, ⟨NX.1, ⟨_, _, _, _, _, _, _, _, _, _, _, _, _, _, _, _, _, _, _, _, _, _, _, _, _, _, _, _, _, _, _, _, _, _, _, _, _, _, _, _, _, _, _, _, _, _, _, _, _, _, _, _, _, _, _, _, rfl⟩⟩, by rw [HZ.out] at NX; exact NX.2⟩
end Go.Proofs.YtgpncnnlhhmjaaaGreatDoor
namespace Go.Proofs.YtgpncnnlhhmjaaaGreatDoor
open Go.RowKit

theorem index_lt (l : List UInt8) (c : UInt8) : Lib.indexByte l c < l.length := by
  induction l with
  | nil => simp [Lib.indexByte]
  | cons b l ih =>
    rw [Lib.indexByte]
    split
    · simp only [List.length_cons]; omega
    · split
      · simp only [List.length_cons]; omega
      · simp only [List.length_cons]; omega
/-- Is there a slash? -/
def hasCut (s : ByteArray) : Bool := decide (0 ≤ Lib.indexByte s.data.toList 47)
def cutT (s : ByteArray) : ByteArray := if hasCut s then cutD s else ⟨#[]⟩
set_option maxRecDepth 100000 in
set_option maxHeartbeats 4000000 in
theorem scut_any (s : ByteArray) (hs : s.size ≤ 9223372036854775807) (w : World) :
    Calls Tryz.prog 91 #[.string s, .string ⟨#[47]⟩] w fun e w' => e = .returned (.tuple #[.string (cutN s), .string (cutT s), .bool (hasCut s)]) ∧ Below w.heap.size w w' := by
  have cI := fun W => Tryz.stringslite_Index_one s 47 W
  have h1 := index_lt s.data.toList 47
  have h2 := Lib.indexByte_ge s.data.toList 47
  rw [← size_list] at h1
  by_cases h : 0 ≤ Lib.indexByte s.data.toList 47
  · have e1 : hasCut s = true := decide_eq_true h
    have e2 : cutN s = s.extract 0 (Lib.indexByte s.data.toList 47).toNat := by rw [cutN, if_neg (by omega)]
    have e3 : cutT s = s.extract ((Lib.indexByte s.data.toList 47).toNat + 1) s.size := by rw [cutT, e1, if_pos rfl, cutD, if_neg (by omega)]
    obtain ⟨k, hk⟩ : ∃ k : Nat, Lib.indexByte s.data.toList 47 = (k : Int) := ⟨(Lib.indexByte s.data.toList 47).toNat, by omega⟩
    rw [hk, Int.toNat_natCast] at e2 e3
    rw [hk] at cI h1
    rw [e1, e2, e3]
    obtain ⟨X, hX⟩ : ∃ X, s.extract 0 k = X := ⟨_, rfl⟩
    obtain ⟨Y, hY⟩ : ∃ Y, s.extract (k + 1) s.size = Y := ⟨_, rfl⟩
    rw [hX, hY]
    have CI := Lib.hid cI
    obtain ⟨m, hm⟩ : ∃ m, k + 1 = m := ⟨_, rfl⟩
    have g0 : (0 : Int) ≤ (k : Int) := by omega
    have g1 : (k : Int) ≤ (s.size : Int) := by omega
    have g2 : (m : Int) ≤ (s.size : Int) := by omega
    have g3 : k ≤ s.size := by omega
    have g4 : m ≤ s.size := by omega
    have g6 : (0 : Int) ≤ (m : Int) := by omega
    have g5 : IntKind.i64.wrap ((k : Int) + 1) = (m : Int) := by rw [IntWalk.i64_in _ (by omega)]; omega
    rw [hm] at hY
    clear hm
    clear cI h1 h2 h e1 e2 e3 hk
    go_enter Tryz.func91, Tryz.ntmps91
    go_wp2_with (first | (go_at_call 118; (with_reducible refine (CI.out _).mono ?_); rintro e w2 ⟨rfl, rfl⟩) | fail)
    go_region_held3 (fun W => Below w2.heap.size w2 W)
      (first | assumption | exact (Below.refl _ _).drew)
      (first | fail)
    go_wp2
    go_ret3
    exact ⟨rfl, (Below.refl _ _).drew⟩
  · have e1 : hasCut s = false := decide_eq_false h
    have e2 : cutN s = s := by rw [cutN, if_pos (by omega)]
    have e3 : cutT s = ⟨#[]⟩ := by rw [cutT, e1]; rfl
    rw [e1, e2, e3]
    obtain ⟨i, hi⟩ : ∃ i, i = Lib.indexByte s.data.toList 47 := ⟨_, rfl⟩
    rw [← hi] at cI h
    have CI := Lib.hid cI
    clear cI h1 h2 e1 e2 e3 hi
    go_enter Tryz.func91, Tryz.ntmps91
    go_wp2_with (first | (go_at_call 118; (with_reducible refine (CI.out _).mono ?_); rintro e w2 ⟨rfl, rfl⟩) | fail)
    go_ret3
    exact ⟨rfl, Below.refl _ _⟩
set_option maxRecDepth 100000 in
set_option maxHeartbeats 4000000 in
theorem slash_any (s : ByteArray) (hs : s.size ≤ 9223372036854775807) (w : World) :
    Calls Tryz.prog 62 #[.string s, .string ⟨#[47]⟩] w fun e w' => e = .returned (.tuple #[.string (cutN s), .string (cutT s), .bool (hasCut s)]) ∧ Below w.heap.size w w' := by
  have cI := scut_any s hs w
  generalize cutN s = X at *
  generalize cutT s = Y at *
  generalize hasCut s = Z at *
  have CI := Lib.hid cI
  clear cI
  go_enter Tryz.func62, Tryz.ntmps62
  go_wp2_with (first | (go_at_call 91; (with_reducible refine CI.out.mono ?_); rintro e w2 ⟨rfl, hb2⟩) | fail)
  go_ret3
  exact ⟨rfl, hb2⟩

set_option maxRecDepth 100000 in
set_option maxHeartbeats 8000000 in
theorem parse_of (s : ByteArray) (hs : s.size ≤ 9223372036854775807) (w : World) (ht : Tab w) :
    Calls Tryz.prog 34 #[.string s] w fun e w' => e = .returned (ov (parseO s)) ∧ Below w.heap.size w w' := by
  have cC := slash_any s hs (w.alloc (.cells #[.string ⟨#[]⟩, .string ⟨#[]⟩] 23))
  have cM := fun W (h : Tab W) => make_of (cutN s) (cutD s) W h
  obtain ⟨m, hm⟩ : ∃ m, m = makeR (cutN s) (cutD s) := ⟨_, rfl⟩
  have hp := parse_make s
  rw [← hm] at cM hp
  have hok : okO m = true := by rw [hm]; exact make_ok _ _
  have cP := fun W (h : Tab W) => print_of (qtN m) (qtD m) W h
  rw [read_opt hok] at cP
  have cT := hasCut s
  have hcd : (hasCut s = true ∧ cutT s = cutD s) ∨ (hasCut s = false ∧ cutD s = ⟨#[49]⟩) := by
    cases h : hasCut s with
    | true => exact Or.inl ⟨rfl, by rw [cutT, h]; rfl⟩
    | false =>
      have : ¬ 0 ≤ Lib.indexByte s.data.toList 47 := of_decide_eq_false h
      exact Or.inr ⟨rfl, by rw [cutD, if_pos (by omega)]⟩
  have T := Lib.hid (ht.below (below_alloc w (.cells #[.string ⟨#[]⟩, .string ⟨#[]⟩] 23)))
  clear ht cT
  cases m with
  | none =>
    have hp2 : parseO s = none := hp
    rw [hp2]
    show Calls Tryz.prog 34 #[.string s] w fun e w' => e = .returned (.tuple #[.agg #[.string ⟨#[]⟩, .string ⟨#[]⟩], .int .i64 40]) ∧ Below w.heap.size w w'
    have cM2 : ∀ W, Tab W → Calls Tryz.prog 27 #[.string (cutN s), .string (cutD s)] W fun e w' => e = .returned (.tuple #[.agg #[.string ⟨#[]⟩, .string ⟨#[]⟩], .int .i64 40]) ∧ Below W.heap.size W w' := cM
    clear hp hp2 hm hok cP cM hs
    rcases hcd with ⟨h1, h2⟩ | ⟨h1, h2⟩
    · rw [h1, h2] at cC
      generalize cutN s = X at *
      generalize cutD s = Y at *
      have CC := Lib.hid cC; have CM := Lib.hid cM2
      clear cC cM2 h1 h2
      go_enter Tryz.func34, Tryz.ntmps34
      go_wp2_with (first
        | (go_at_call 62; (with_reducible refine CC.out.mono ?_); rintro e w2 ⟨rfl, hb2⟩; have T2 := Lib.hid (T.out.below hb2))
        | (go_at_call 27; (with_reducible refine (CM.out _ T2.out).mono ?_); rintro e w3 ⟨rfl, hb3⟩; have R2 := Row.later (Row.over (Row.over (Row.made w 23 #[.string ⟨#[]⟩, .string ⟨#[]⟩]) hb2) hb3) (.cells #[.string ⟨#[]⟩, .string ⟨#[]⟩] 23); obtain ⟨c3, c4, c5, c6⟩ := two_cells R2)
        | fail)
      (try simp only [Exit.inBlock, Exit.then])
      refine bodyPost_ret (res_rt rfl rfl (rat_put ⟨_, _, R2⟩ _ _)) rfl ?_
      exact ⟨rfl, below_put (keep_alloc (below_step (below_step (below_alloc w _) hb2) hb3) _) (Nat.le_refl _) _ _⟩
    · rw [h1] at cC
      rw [h2] at cM2
      generalize cutN s = X at *
      generalize cutT s = Y at *
      have CC := Lib.hid cC; have CM := Lib.hid cM2
      clear cC cM2 h1 h2
      go_enter Tryz.func34, Tryz.ntmps34
      go_wp2_with (first
        | (go_at_call 62; (with_reducible refine CC.out.mono ?_); rintro e w2 ⟨rfl, hb2⟩; have T2 := Lib.hid (T.out.below hb2))
        | (go_at_call 27; (with_reducible refine (CM.out _ T2.out).mono ?_); rintro e w3 ⟨rfl, hb3⟩; have R2 := Row.later (Row.over (Row.over (Row.made w 23 #[.string ⟨#[]⟩, .string ⟨#[]⟩]) hb2) hb3) (.cells #[.string ⟨#[]⟩, .string ⟨#[]⟩] 23); obtain ⟨c3, c4, c5, c6⟩ := two_cells R2)
        | fail)
      (try simp only [Exit.inBlock, Exit.then])
      refine bodyPost_ret (res_rt rfl rfl (rat_put ⟨_, _, R2⟩ _ _)) rfl ?_
      exact ⟨rfl, below_put (keep_alloc (below_step (below_step (below_alloc w _) hb2) hb3) _) (Nat.le_refl _) _ _⟩
  | some q =>
    have cM2 : ∀ W, Tab W → Calls Tryz.prog 27 #[.string (cutN s), .string (cutD s)] W fun e w' => e = .returned (.tuple #[.agg #[.string (dec q.num), .string (dec (q.den : Int))], .int .i64 0]) ∧ Below W.heap.size W w' := cM
    have cP2 : ∀ W, Tab W → Calls Tryz.prog 33 #[rv (dec q.num) (dec (q.den : Int))] W fun e w' => e = .returned (.string (prO (some q))) ∧ Below W.heap.size W w' := cP
    obtain ⟨P, hP⟩ : ∃ P, P = prO (some q) := ⟨_, rfl⟩
    rw [← hP] at hp cP2
    by_cases he : P = s
    · have hp2 : parseO s = some q := by rw [hp]; simp [he]
      rw [hp2]
      show Calls Tryz.prog 34 #[.string s] w fun e w' => e = .returned (.tuple #[.agg #[.string (dec q.num), .string (dec (q.den : Int))], .int .i64 0]) ∧ Below w.heap.size w w'
      rw [he] at cP2
      clear hp hp2 hm hok cP cM hs hP he
      generalize dec q.num = M at *
      generalize dec (q.den : Int) = D at *
      rcases hcd with ⟨h1, h2⟩ | ⟨h1, h2⟩
      · rw [h1, h2] at cC
        generalize cutN s = X at *
        generalize cutD s = Y at *
        have CC := Lib.hid cC; have CM := Lib.hid cM2; have CP := Lib.hid cP2
        clear cC cM2 h1 h2 cP2
        go_enter Tryz.func34, Tryz.ntmps34
        go_wp2_with (first
          | (go_at_call 62; (with_reducible refine CC.out.mono ?_); rintro e w2 ⟨rfl, hb2⟩; have T2 := Lib.hid (T.out.below hb2))
          | (go_at_call 27; (with_reducible refine (CM.out _ T2.out).mono ?_); rintro e w3 ⟨rfl, hb3⟩; have B3 := below_alloc w3 (.cells #[.string M, .string D] 23); have T3 := Lib.hid ((T2.out.below hb3).below B3); have HB3 := Lib.hid B3; clear B3)
          | (go_at_call 33; (with_reducible refine (CP.out _ T3.out).mono ?_); rintro e w4 ⟨rfl, hb4⟩; have R2 := Row.over (Row.later (Row.over (Row.over (Row.made w 23 #[.string ⟨#[]⟩, .string ⟨#[]⟩]) hb2) hb3) (.cells #[.string M, .string D] 23)) hb4; have R3 := Row.over (Row.made w3 23 #[.string M, .string D]) hb4; obtain ⟨c3, c4, c5, c6⟩ := two_cells R2; obtain ⟨d3, d4, _, _⟩ := two_cells R3)
          | fail)
        (try simp only [Exit.inBlock, Exit.then])
        refine bodyPost_ret (res_rt rfl rfl (rat_put ⟨_, _, R2⟩ _ _)) rfl ?_
        exact ⟨rfl, below_put (below_step (keep_alloc (below_step (below_step (below_alloc w _) hb2) hb3) _) hb4) (Nat.le_refl _) _ _⟩
      · rw [h1] at cC
        rw [h2] at cM2
        generalize cutN s = X at *
        generalize cutT s = Y at *
        have CC := Lib.hid cC; have CM := Lib.hid cM2; have CP := Lib.hid cP2
        clear cC cM2 h1 h2 cP2
        go_enter Tryz.func34, Tryz.ntmps34
        go_wp2_with (first
          | (go_at_call 62; (with_reducible refine CC.out.mono ?_); rintro e w2 ⟨rfl, hb2⟩; have T2 := Lib.hid (T.out.below hb2))
          | (go_at_call 27; (with_reducible refine (CM.out _ T2.out).mono ?_); rintro e w3 ⟨rfl, hb3⟩; have B3 := below_alloc w3 (.cells #[.string M, .string D] 23); have T3 := Lib.hid ((T2.out.below hb3).below B3); have HB3 := Lib.hid B3; clear B3)
          | (go_at_call 33; (with_reducible refine (CP.out _ T3.out).mono ?_); rintro e w4 ⟨rfl, hb4⟩; have R2 := Row.over (Row.later (Row.over (Row.over (Row.made w 23 #[.string ⟨#[]⟩, .string ⟨#[]⟩]) hb2) hb3) (.cells #[.string M, .string D] 23)) hb4; have R3 := Row.over (Row.made w3 23 #[.string M, .string D]) hb4; obtain ⟨c3, c4, c5, c6⟩ := two_cells R2; obtain ⟨d3, d4, _, _⟩ := two_cells R3)
          | fail)
        (try simp only [Exit.inBlock, Exit.then])
        refine bodyPost_ret (res_rt rfl rfl (rat_put ⟨_, _, R2⟩ _ _)) rfl ?_
        exact ⟨rfl, below_put (below_step (keep_alloc (below_step (below_step (below_alloc w _) hb2) hb3) _) hb4) (Nat.le_refl _) _ _⟩
    · have hp2 : parseO s = none := by rw [hp]; simp [he]
      rw [hp2]
      show Calls Tryz.prog 34 #[.string s] w fun e w' => e = .returned (.tuple #[.agg #[.string ⟨#[]⟩, .string ⟨#[]⟩], .int .i64 40]) ∧ Below w.heap.size w w'
      have e0 := ne_list he
      clear hp hp2 hm hok cP cM hs hP he
      generalize dec q.num = M at *
      generalize dec (q.den : Int) = D at *
      rcases hcd with ⟨h1, h2⟩ | ⟨h1, h2⟩
      · rw [h1, h2] at cC
        generalize cutN s = X at *
        generalize cutD s = Y at *
        have CC := Lib.hid cC; have CM := Lib.hid cM2; have CP := Lib.hid cP2
        clear cC cM2 h1 h2 cP2
        go_enter Tryz.func34, Tryz.ntmps34
        go_wp2_with (first
          | (go_at_call 62; (with_reducible refine CC.out.mono ?_); rintro e w2 ⟨rfl, hb2⟩; have T2 := Lib.hid (T.out.below hb2))
          | (go_at_call 27; (with_reducible refine (CM.out _ T2.out).mono ?_); rintro e w3 ⟨rfl, hb3⟩; have B3 := below_alloc w3 (.cells #[.string M, .string D] 23); have T3 := Lib.hid ((T2.out.below hb3).below B3); have HB3 := Lib.hid B3; clear B3)
          | (go_at_call 33; (with_reducible refine (CP.out _ T3.out).mono ?_); rintro e w4 ⟨rfl, hb4⟩; have R2 := Row.over (Row.later (Row.over (Row.over (Row.made w 23 #[.string ⟨#[]⟩, .string ⟨#[]⟩]) hb2) hb3) (.cells #[.string M, .string D] 23)) hb4; have R3 := Row.over (Row.made w3 23 #[.string M, .string D]) hb4; obtain ⟨c3, c4, c5, c6⟩ := two_cells R2; obtain ⟨d3, d4, _, _⟩ := two_cells R3)
          | fail)
        (try simp only [Exit.inBlock, Exit.then])
        refine bodyPost_ret (res_rt rfl rfl (rat_put ⟨_, _, R2⟩ _ _)) rfl ?_
        exact ⟨rfl, below_put (below_step (keep_alloc (below_step (below_step (below_alloc w _) hb2) hb3) _) hb4) (Nat.le_refl _) _ _⟩
      · rw [h1] at cC
        rw [h2] at cM2
        generalize cutN s = X at *
        generalize cutT s = Y at *
        have CC := Lib.hid cC; have CM := Lib.hid cM2; have CP := Lib.hid cP2
        clear cC cM2 h1 h2 cP2
        go_enter Tryz.func34, Tryz.ntmps34
        go_wp2_with (first
          | (go_at_call 62; (with_reducible refine CC.out.mono ?_); rintro e w2 ⟨rfl, hb2⟩; have T2 := Lib.hid (T.out.below hb2))
          | (go_at_call 27; (with_reducible refine (CM.out _ T2.out).mono ?_); rintro e w3 ⟨rfl, hb3⟩; have B3 := below_alloc w3 (.cells #[.string M, .string D] 23); have T3 := Lib.hid ((T2.out.below hb3).below B3); have HB3 := Lib.hid B3; clear B3)
          | (go_at_call 33; (with_reducible refine (CP.out _ T3.out).mono ?_); rintro e w4 ⟨rfl, hb4⟩; have R2 := Row.over (Row.later (Row.over (Row.over (Row.made w 23 #[.string ⟨#[]⟩, .string ⟨#[]⟩]) hb2) hb3) (.cells #[.string M, .string D] 23)) hb4; have R3 := Row.over (Row.made w3 23 #[.string M, .string D]) hb4; obtain ⟨c3, c4, c5, c6⟩ := two_cells R2; obtain ⟨d3, d4, _, _⟩ := two_cells R3)
          | fail)
        (try simp only [Exit.inBlock, Exit.then])
        refine bodyPost_ret (res_rt rfl rfl (rat_put ⟨_, _, R2⟩ _ _)) rfl ?_
        exact ⟨rfl, below_put (below_step (keep_alloc (below_step (below_step (below_alloc w _) hb2) hb3) _) hb4) (Nat.le_refl _) _ _⟩
end Go.Proofs.YtgpncnnlhhmjaaaGreatDoor
namespace Go.Proofs.YtgpncnnlhhmjaaaGreatDoor
open Go.RowKit

set_option maxRecDepth 1000000 in
set_option maxHeartbeats 8000000 in
theorem cmp_bad1 (n1 d1 n2 d2 : ByteArray) (w : World) (ht : Tab w) (v1 : validR n1 d1 = false) :
    Calls Tryz.prog 20 #[rv n1 d1, rv n2 d2] w fun e w' => e = .returned (.int .i64 0) ∧ Below w.heap.size w w' := by
  have hb : Below w.heap.size w ((w.alloc (.cells #[.string n1, .string d1] 23)).alloc (.cells #[.string n2, .string d2] 23)) := keep_alloc (below_alloc w _) _
  have cV := valid_rat n1 d1 _ (ht.below hb)
  rw [v1] at cV
  have CV := Lib.hid cV; have HB := Lib.hid hb
  clear cV v1 hb ht
  go_enter Tryz.func20, Tryz.ntmps20
  go_wp2
  refine wp_scope_jumps 0 (fun _ _ => False) (fun _ _ => 0) rfl ?_ (fun _ _ h => h.elim)
  go_wp2_with (first
    | (go_at_call 29; (with_reducible refine CV.out.mono ?_); rintro e wa ⟨rfl, hba⟩)
    | fail)
  simp only [Exit.jump]
  go_ret
  exact ⟨rfl, below_step HB.out hba⟩
set_option maxRecDepth 1000000 in
set_option maxHeartbeats 8000000 in
theorem cmp_bad2 (n1 d1 n2 d2 : ByteArray) (w : World) (ht : Tab w) (v1 : validR n1 d1 = true) (v2 : validR n2 d2 = false) :
    Calls Tryz.prog 20 #[rv n1 d1, rv n2 d2] w fun e w' => e = .returned (.int .i64 0) ∧ Below w.heap.size w w' := by
  have hb : Below w.heap.size w ((w.alloc (.cells #[.string n1, .string d1] 23)).alloc (.cells #[.string n2, .string d2] 23)) := keep_alloc (below_alloc w _) _
  have cV := valid_rat n1 d1 _ (ht.below hb)
  have cU := fun W (h : Tab W) => valid_rat n2 d2 W h
  rw [v1] at cV
  rw [v2] at cU
  have r2 := Row.made_at (w.alloc (.cells #[.string n1, .string d1] 23)) 23 #[.string n2, .string d2] (g := w.heap.size + 1) (by simp)
  have CV := Lib.hid cV; have CU := Lib.hid cU; have HB := Lib.hid hb; have T := Lib.hid (ht.below hb); have R2 := Lib.hid r2
  clear cV cU v1 v2 hb ht r2
  go_enter Tryz.func20, Tryz.ntmps20
  go_wp2
  refine wp_scope_jumps 0 (fun _ _ => False) (fun _ _ => 0) rfl ?_ (fun _ _ h => h.elim)
  go_wp2_with (first
    | (go_at_call 29; (with_reducible refine CV.out.mono ?_); rintro e wa ⟨rfl, hba⟩; have TA := Lib.hid (T.out.below hba); obtain ⟨c0, c1, _, _⟩ := two_cells (Row.over R2.out hba))
    | (go_at_call 29; (with_reducible refine (CU.out _ TA.out).mono ?_); rintro e wb ⟨rfl, hbb⟩)
    | fail)
  simp only [Exit.jump]
  go_ret
  exact ⟨rfl, below_step (below_step HB.out hba) hbb⟩
theorem cmp_none {a b : Option Rat} (h : a = none ∨ b = none) : cmpO a b = 0 := by
  rcases h with h | h <;> subst h
  · cases b <;> rfl
  · cases a <;> rfl
theorem cmp_of (n1 d1 n2 d2 : ByteArray) (w : World) (ht : Tab w) :
    Calls Tryz.prog 20 #[rv n1 d1, rv n2 d2] w fun e w' => e = .returned (.int .i64 (cmpO (readR n1 d1) (readR n2 d2))) ∧ Below w.heap.size w w' := by
  cases v1 : validR n1 d1 with
  | false => rw [cmp_none (Or.inl (read_none v1))]; exact cmp_bad1 n1 d1 n2 d2 w ht v1
  | true =>
    cases v2 : validR n2 d2 with
    | false => rw [cmp_none (Or.inr (read_none v2))]; exact cmp_bad2 n1 d1 n2 d2 w ht v1 v2
    | true =>
      obtain ⟨a, r1, e1, e2, o1⟩ := read_is v1
      obtain ⟨b, r2, e3, e4, o2⟩ := read_is v2
      obtain ⟨a1, a2⟩ := okQ_iff.1 o1
      obtain ⟨b1, b2⟩ := okQ_iff.1 o2
      refine cmp_valid n1 d1 n2 d2 _ w ht v1 v2 ⟨a.num, a.den, b.num, b.den, keep_alloc (below_alloc w _) _, ?_, ?_, a1, a2, b1, b2, den_posI a, den_posI b, ?_⟩
      · rw [← e1, ← e2]; exact (Row.made w _ _).later _
      · rw [← e3, ← e4]; exact Row.made_at _ _ _ (by simp)
      · rw [r1, r2]; rfl

/-! ### at fractions -/
/-- A fraction's texts, or nothing's. -/
abbrev qv (o : Option Rat) : Value := rv (qtN o) (qtD o)
section
variable {a b : Option Rat} (ha : okO a = true) (hb : okO b = true) (w : World) (ht : Tab w)
include ha hb ht
theorem add_q : Calls Tryz.prog 38 #[qv a, qv b] w fun e w' => e = .returned (ov (addO a b)) ∧ Below w.heap.size w w' := by
  have h := add_of (qtN a) (qtD a) (qtN b) (qtD b) w ht
  rw [read_opt ha, read_opt hb] at h; exact h
theorem sub_q : Calls Tryz.prog 40 #[qv a, qv b] w fun e w' => e = .returned (ov (subO a b)) ∧ Below w.heap.size w w' := by
  have h := sub_of (qtN a) (qtD a) (qtN b) (qtD b) w ht
  rw [read_opt ha, read_opt hb] at h; exact h
theorem mul_q : Calls Tryz.prog 39 #[qv a, qv b] w fun e w' => e = .returned (ov (mulO a b)) ∧ Below w.heap.size w w' := by
  have h := mul_of (qtN a) (qtD a) (qtN b) (qtD b) w ht
  rw [read_opt ha, read_opt hb] at h; exact h
theorem div_q : Calls Tryz.prog 45 #[qv a, qv b] w fun e w' => e = .returned (ov (divO a b)) ∧ Below w.heap.size w w' := by
  have h := div_of (qtN a) (qtD a) (qtN b) (qtD b) w ht
  rw [read_opt ha, read_opt hb] at h; exact h
theorem cmp_q : Calls Tryz.prog 20 #[qv a, qv b] w fun e w' => e = .returned (.int .i64 (cmpO a b)) ∧ Below w.heap.size w w' := by
  have h := cmp_of (qtN a) (qtD a) (qtN b) (qtD b) w ht
  rw [read_opt ha, read_opt hb] at h; exact h
end
section
variable {a : Option Rat} (ha : okO a = true) (w : World) (ht : Tab w)
include ha ht
theorem down_q (p : Int) : Calls Tryz.prog 23 #[qv a, .int .i64 p] w fun e w' => e = .returned (ov (downO p a)) ∧ Below w.heap.size w w' := by
  have h := down_of (qtN a) (qtD a) p w ht
  rw [read_opt ha] at h; exact h
theorem up_q (p : Int) : Calls Tryz.prog 25 #[qv a, .int .i64 p] w fun e w' => e = .returned (ov (upO p a)) ∧ Below w.heap.size w w' := by
  have h := up_of (qtN a) (qtD a) p w ht
  rw [read_opt ha] at h; exact h
theorem print_q : Calls Tryz.prog 33 #[qv a] w fun e w' => e = .returned (.string (prO a)) ∧ Below w.heap.size w w' := by
  have h := print_of (qtN a) (qtD a) w ht
  rw [read_opt ha] at h; exact h
theorem valid_q : Calls Tryz.prog 29 #[qv a] w fun e w' => e = .returned (.bool a.isSome) ∧ Below w.heap.size w w' := by
  have h := valid_rat (qtN a) (qtD a) w ht
  rw [valid_read, read_opt ha] at h; exact h
end
end Go.Proofs.YtgpncnnlhhmjaaaGreatDoor
