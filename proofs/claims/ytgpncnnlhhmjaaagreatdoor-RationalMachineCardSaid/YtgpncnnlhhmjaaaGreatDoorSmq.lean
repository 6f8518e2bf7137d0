/- The reference's Make. The reference's pick, Of, Small. The reference's Small. -/
import Derived.Test.YtgpncnnlhhmjaaaGreatDoorRall
import Derived.Test.YtgpncnnlhhmjaaaGreatDoorRnd
import Derived.Test.YtgpncnnlhhmjaaaGreatDoorMin
namespace Go.Proofs.YtgpncnnlhhmjaaaGreatDoor
open Go.RowKit

theorem dec_le {z : Int} (h : fits z = true) : (dec z).size ≤ 1000 := Nat.le_trans (valid_size (by rw [valid_dec, h])) (by decide)
theorem Calls.same {P : Program} {f : FuncId} {args : Array Value} {w : World} {Q R : Ending → World → Prop} (h : Calls P f args w Q) (e : ∀ a b, Q a b → R a b) : Calls P f args w R := h.mono fun a b q => e a b q
section
variable {x y : Int} (fx : fits x = true) (fy : fits y = true) (W : World)
include fx fy
theorem rgcd_at (h : ¬ (x = 0 ∧ y = 0)) : Calls Tryz.prog 59 #[.string (dec x), .string (dec y)] W fun e w' => e = .returned (.tuple #[.string (dec (Int.gcd x y : Int)), .int .i64 0]) ∧ Below W.heap.size W w' := by
  have fg : fits (Int.gcd x y : Int) = true := by
    by_cases hy : y = 0
    · refine fits_le fx ?_
      rw [Int.natAbs_natCast]
      exact Nat.le_of_dvd (by omega) (Int.gcd_dvd_natAbs_left _ _)
    · refine fits_le fy ?_
      rw [Int.natAbs_natCast]
      exact Nat.le_of_dvd (by omega) (Int.gcd_dvd_natAbs_right _ _)
  have h1 := rgcd_any (dec x) (dec y) (dec_le fx) (dec_le fy) W
  rw [opT_dec _ fx fy, opE_dec _ fx fy, outT_fits fg, outE_fits fg] at h1
  exact h1
theorem rquo_at (h : y ≠ 0) : Calls Tryz.prog 52 #[.string (dec x), .string (dec y)] W fun e w' => e = .returned (.tuple #[.string (dec (x / y)), .string (dec (x % y)), .int .i64 0]) ∧ Below W.heap.size W w' := by
  have h1 := rquo_any (dec x) (dec y) (dec_le fx) (dec_le fy) W
  obtain ⟨q, r, e⟩ := div_dec fx fy h
  rw [q, r, e] at h1
  exact h1
theorem rcmp_at : Calls Tryz.prog 53 #[.string (dec x), .string (dec y)] W fun e w' => e = .returned (.int .i64 (cmpI x y)) ∧ Below W.heap.size W w' := by
  have h1 := rcmp_any (dec x) (dec y) (dec_le fx) (dec_le fy) W
  rw [cmp_dec fx fy] at h1
  exact h1
end
theorem rneg_at {x : Int} (fx : fits x = true) (W : World) : Calls Tryz.prog 49 #[.string ⟨#[48]⟩, .string (dec x)] W fun e w' => e = .returned (.tuple #[.string (dec (-x)), .int .i64 0]) ∧ Below W.heap.size W w' := by
  have f0 : fits 0 = true := fits_tiny (by decide)
  have h1 := rsub_any (dec 0) (dec x) (dec_le f0) (dec_le fx) W
  obtain ⟨t, e⟩ := op_dec (fun x y => x - y) f0 fx (by show fits (0 - x) = true; rw [Int.zero_sub]; exact fits_neg fx)
  rw [t, e, ← l0, Int.zero_sub] at h1
  exact h1
set_option maxRecDepth 100000 in
set_option maxHeartbeats 8000000 in
theorem rmake_go (x y : Int) (fx : fits x = true) (fy : fits y = true) (hy : y ≠ 0) (w : World) :
    Calls Tryz.prog 28 #[.string (dec x), .string (dec y)] w fun e w' => e = .returned (.tuple #[.agg #[.string (dec (Rat.divInt x y).num), .string (dec ((Rat.divInt x y).den : Int))], .int .i64 0]) ∧ Below w.heap.size w w' := by
  have cX := fun W => rvalid_any (dec x) (dec_le fx) W
  have cY := fun W => rvalid_any (dec y) (dec_le fy) W
  rw [valid_dec, fx] at cX
  rw [valid_dec, fy] at cY
  have f0 : fits 0 = true := fits_tiny (by decide)
  have cC := fun W => rcmp_at fy f0 W
  rw [← l0] at cC
  have hne : ¬ dec y = ⟨#[48]⟩ := by rw [l0]; intro h; exact hy (dec_inj h)
  have e0 := ne_zero hne
  have key : ∀ (a b : Int) (fa : fits a = true) (fb : fits b = true) (hb : 0 < b), (∀ W, Calls Tryz.prog 59 #[.string (dec a), .string (dec b)] W fun e w' => e = .returned (.tuple #[.string (dec (Int.gcd a b : Int)), .int .i64 0]) ∧ Below W.heap.size W w') ∧
      (∀ W, Calls Tryz.prog 52 #[.string (dec a), .string (dec (Int.gcd a b : Int))] W fun e w' => e = .returned (.tuple #[.string (dec (Rat.divInt a b).num), .string (dec (a % (Int.gcd a b : Int))), .int .i64 0]) ∧ Below W.heap.size W w') ∧
      (∀ W, Calls Tryz.prog 52 #[.string (dec b), .string (dec (Int.gcd a b : Int))] W fun e w' => e = .returned (.tuple #[.string (dec ((Rat.divInt a b).den : Int)), .string (dec (b % (Int.gcd a b : Int))), .int .i64 0]) ∧ Below W.heap.size W w') := by
    intro a b fa fb hb
    have hg0 : (Int.gcd a b : Int) ≠ 0 := by
      intro h
      have : Int.gcd a b = 0 := by omega
      rw [Int.gcd_eq_zero_iff] at this
      omega
    have fg : fits (Int.gcd a b : Int) = true := by
      refine fits_le fb ?_
      rw [Int.natAbs_natCast]
      exact Nat.le_of_dvd (by omega) (Int.gcd_dvd_natAbs_right _ _)
    obtain ⟨r1, r2⟩ := divInt_pos (n := a) hb
    rw [r1, r2]
    exact ⟨fun W => rgcd_at fa fb W (by omega), fun W => rquo_at fa fg W hg0, fun W => rquo_at fb fg W hg0⟩
  by_cases hp : 0 < y
  · obtain ⟨cG, cN, cD⟩ := key x y fx fy hp
    have hc : cmpI y 0 = 1 := by rw [cmpI, if_neg (by omega), if_pos hp]
    rw [hc] at cC
    generalize dec (Rat.divInt x y).num = N at *
    generalize dec ((Rat.divInt x y).den : Int) = D at *
    generalize dec (x % (Int.gcd x y : Int)) = r at *
    generalize dec (y % (Int.gcd x y : Int)) = s at *
    generalize dec (Int.gcd x y : Int) = G at *
    generalize dec x = X at *
    generalize dec y = Y at *
    have CX := Lib.hid cX; have CY := Lib.hid cY; have CC := Lib.hid cC; have CG := Lib.hid cG; have CN := Lib.hid cN; have CD := Lib.hid cD
    clear cX cY cC cG cN cD key hne fx fy hy hc hp f0
    go_enter Tryz.func28, Tryz.ntmps28
    go_wp2_with (first
      | (go_at_call 52; (with_reducible refine (CD.out _).mono ?_); rintro e w6 ⟨rfl, b6⟩; have R1 := Row.over (Row.over (Row.over (Row.over (Row.over (Row.over (Row.made w 23 #[.string ⟨#[]⟩, .string ⟨#[]⟩]) b1) b2) b3) b4) b5) b6; obtain ⟨c3, c4, c5, c6⟩ := two_cells R1)
      | (go_at_call 52; (with_reducible refine (CN.out _).mono ?_); rintro e w5 ⟨rfl, b5⟩)
      | (go_at_call 59; (with_reducible refine (CG.out _).mono ?_); rintro e w4 ⟨rfl, b4⟩)
      | (go_at_call 53; (with_reducible refine (CC.out _).mono ?_); rintro e w3 ⟨rfl, b3⟩)
      | (go_at_call 58; (with_reducible refine (CX.out _).mono ?_); rintro e w1 ⟨rfl, b1⟩)
      | (go_at_call 58; (with_reducible refine (CY.out _).mono ?_); rintro e w2 ⟨rfl, b2⟩)
      | fail)
    (try simp only [Exit.inBlock, Exit.then])
    refine bodyPost_ret (res_rt rfl rfl (rat_put ⟨_, _, R1⟩ _ _)) rfl ?_
    exact ⟨rfl, below_put (below_step (below_step (below_step (below_step (below_step (below_step (below_alloc w _) b1) b2) b3) b4) b5) b6) (Nat.le_refl _) _ _⟩
  · have hp2 : 0 < -y := by omega
    have fx2 := fits_neg fx
    have fy2 := fits_neg fy
    obtain ⟨cG, cN, cD⟩ := key (-x) (-y) fx2 fy2 hp2
    rw [← divInt_negs] at cN cD
    have cS := fun W => rneg_at fx W
    have cT := fun W => rneg_at fy W
    have hc : cmpI y 0 = -1 := by rw [cmpI, if_pos (by omega)]
    rw [hc] at cC
    generalize dec (Rat.divInt x y).num = N at *
    generalize dec ((Rat.divInt x y).den : Int) = D at *
    generalize dec (-x % (Int.gcd (-x) (-y) : Int)) = r at *
    generalize dec (-y % (Int.gcd (-x) (-y) : Int)) = s at *
    generalize dec (Int.gcd (-x) (-y) : Int) = G at *
    generalize dec (-x) = X2 at *
    generalize dec (-y) = Y2 at *
    generalize dec x = X at *
    generalize dec y = Y at *
    have CX := Lib.hid cX; have CY := Lib.hid cY; have CC := Lib.hid cC; have CG := Lib.hid cG; have CN := Lib.hid cN; have CD := Lib.hid cD; have CS := Lib.hid cS; have CT := Lib.hid cT
    clear cX cY cC cG cN cD cS cT key hne fx fy hy hc hp f0 hp2 fx2 fy2
    go_enter Tryz.func28, Tryz.ntmps28
    go_wp2_with (first
      | (go_at_call 52; (with_reducible refine (CD.out _).mono ?_); rintro e w8 ⟨rfl, b8⟩; have R1 := (Row.over (Row.over (Row.over (Row.over (Row.over (Row.over (Row.over (Row.over (Row.made w 23 #[.string ⟨#[]⟩, .string ⟨#[]⟩]) b1) b2) b3) b4) b5) b6) b7) b8); obtain ⟨c3, c4, c5, c6⟩ := two_cells R1)
      | (go_at_call 52; (with_reducible refine (CN.out _).mono ?_); rintro e w7 ⟨rfl, b7⟩)
      | (go_at_call 59; (with_reducible refine (CG.out _).mono ?_); rintro e w6 ⟨rfl, b6⟩)
      | (go_at_call 49; (with_reducible refine (CT.out _).mono ?_); rintro e w5 ⟨rfl, b5⟩)
      | (go_at_call 49; (with_reducible refine (CS.out _).mono ?_); rintro e w4 ⟨rfl, b4⟩)
      | (go_at_call 53; (with_reducible refine (CC.out _).mono ?_); rintro e w3 ⟨rfl, b3⟩)
      | (go_at_call 58; (with_reducible refine (CX.out _).mono ?_); rintro e w1 ⟨rfl, b1⟩)
      | (go_at_call 58; (with_reducible refine (CY.out _).mono ?_); rintro e w2 ⟨rfl, b2⟩)
      | fail)
    (try simp only [Exit.inBlock, Exit.then])
    refine bodyPost_ret (res_rt rfl rfl (rat_put ⟨_, _, R1⟩ _ _)) rfl ?_
    exact ⟨rfl, below_put (below_step (below_step (below_step (below_step (below_step (below_step (below_step (below_step (below_alloc w _) b1) b2) b3) b4) b5) b6) b7) b8) (Nat.le_refl _) _ _⟩
end Go.Proofs.YtgpncnnlhhmjaaaGreatDoor
namespace Go.Proofs.YtgpncnnlhhmjaaaGreatDoor
open Go.RowKit

set_option maxRecDepth 100000 in
theorem rpick_of (c n : Int) (hn : 0 < n) (c0 : -9223372036854775808 ≤ c) (c1 : c ≤ 9223372036854775807) (w : World) : Calls Tryz.prog 46 #[.int .i64 c, .int .i64 n] w fun e w' => e = .returned (.int .i64 (pkI c n)) ∧ w' = w := by
  have hn0 : ¬ n = 0 := by omega
  by_cases h : c < 0
  · have e1 : IntKind.i64.wrap (c + 1) = c + 1 := IntWalk.i64_in _ (by omega)
    have e2 : IntKind.i64.wrap (-(c + 1)) = -(c + 1) := IntWalk.i64_in _ (by omega)
    obtain ⟨k, hk⟩ : ∃ k, k = -(c + 1) := ⟨_, rfl⟩
    rw [← hk] at e2
    have e3 : k.tmod n = pkI c n := by rw [pkI, if_pos h, ← hk]; exact Int.tmod_eq_emod_of_nonneg (by omega)
    have e4 : IntKind.i64.wrap (-(c + 1)) = k := by rw [← hk, e2]
    have hp : -9223372036854775808 ≤ pkI c n ∧ pkI c n ≤ 9223372036854775807 := by
      have := pkI_lo (c := c) hn
      have h2 : pkI c n ≤ k := by rw [pkI, if_pos h, ← hk]; exact emod_le_self (by omega) hn
      omega
    generalize pkI c n = p at *
    clear hk
    go_enter Tryz.func46, Tryz.ntmps46
    go_wp2
    go_ret
    exact ⟨rfl, rfl⟩
  · have e3 : c.tmod n = pkI c n := by rw [pkI, if_neg h]; exact Int.tmod_eq_emod_of_nonneg (by omega)
    have hp : -9223372036854775808 ≤ pkI c n ∧ pkI c n ≤ 9223372036854775807 := by
      have := pkI_lo (c := c) hn
      have h2 : pkI c n ≤ c := by rw [pkI, if_neg h]; exact emod_le_self (by omega) hn
      omega
    generalize pkI c n = p at *
    go_enter Tryz.func46, Tryz.ntmps46
    go_wp2
    go_ret
    exact ⟨rfl, rfl⟩
set_option maxRecDepth 100000 in
set_option maxHeartbeats 4000000 in
theorem rof_go (a b : Int) (a0 : -9223372036854775808 ≤ a) (a1 : a ≤ 9223372036854775807) (b0 : -9223372036854775808 ≤ b) (b1 : b ≤ 9223372036854775807) (hb : b ≠ 0) (w : World) :
    Calls Tryz.prog 32 #[.int .i64 a, .int .i64 b] w fun e w' => e = .returned (.tuple #[.agg #[.string (dec (Rat.divInt a b).num), .string (dec ((Rat.divInt a b).den : Int))], .int .i64 0]) ∧ Below w.heap.size w w' := by
  have cM := fun W => rmake_go a b (fits_tiny (by omega)) (fits_tiny (by omega)) hb W
  have cA := fun W => rfrom_any a a0 a1 W
  have cB := fun W => rfrom_any b b0 b1 W
  generalize dec (Rat.divInt a b).num = N at *
  generalize dec ((Rat.divInt a b).den : Int) = D at *
  obtain ⟨A, hA⟩ : ∃ A, A = dec a := ⟨_, rfl⟩
  obtain ⟨B, hB⟩ : ∃ B, B = dec b := ⟨_, rfl⟩
  rw [← hA] at cA cM
  rw [← hB] at cB cM
  clear hA hB hb
  have CM := Lib.hid cM; have CA := Lib.hid cA; have CB := Lib.hid cB
  clear cM cA cB a0 a1 b0 b1
  go_enter Tryz.func32, Tryz.ntmps32
  go_wp2_with (first
    | (go_at_call 43; (with_reducible refine (CA.out _).mono ?_); rintro e w2 ⟨rfl, hb2⟩)
    | (go_at_call 43; (with_reducible refine (CB.out _).mono ?_); rintro e w3 ⟨rfl, hb3⟩)
    | (go_at_call 28; (with_reducible refine (CM.out _).mono ?_); rintro e w4 ⟨rfl, hb4⟩; have R2 := Row.over (Row.over (Row.over (Row.made w 23 #[.string ⟨#[]⟩, .string ⟨#[]⟩]) hb2) hb3) hb4; obtain ⟨c3, c4, c5, c6⟩ := two_cells R2)
    | fail)
  (try simp only [Exit.inBlock, Exit.then])
  refine bodyPost_ret (res_rt rfl rfl (rat_put ⟨_, _, R2⟩ _ _)) rfl ?_
  exact ⟨rfl, below_put (below_step (below_step (below_step (below_alloc w _) hb2) hb3) hb4) (Nat.le_refl _) _ _⟩
end Go.Proofs.YtgpncnnlhhmjaaaGreatDoor
namespace Go.Proofs.YtgpncnnlhhmjaaaGreatDoor
open Go.RowKit

def Sm (w : World) (a b : Int) (W : World) : Prop := Below w.heap.size w W ∧ Row W w.heap.size 25 #[.int .i64 a, .int .i64 b] ∧ RAny W (w.heap.size + 1)
section
variable {w W W' : World} {a b : Int}
theorem Sm.step (h : Sm w a b W) (hb : Below W.heap.size W W') : Sm w a b W' := ⟨below_step h.1 hb, Row.over h.2.1 hb, h.2.2.over hb⟩
theorem Sm.drew (h : Sm w a b W) : Sm w a b W.drew := ⟨h.1.drew, h.2.1.drawn, h.2.2⟩
theorem Sm.far {g : Nat} (h : Sm w a b W) (hg : w.heap.size + 1 < g) (x y : Value) : Sm w a b ((W.setCell ⟨g, 0, none⟩ x).setCell ⟨g, 1, none⟩ y) := by
  obtain ⟨h1, h2, n0, d0, h3⟩ := h
  exact ⟨below_put h1 (by omega) _ _, num_far h2 (by omega) _ _, n0, d0, num_far h3 (by omega) _ _⟩
end
/-- The fraction that two integers determine. -/
def smQ (a b : Int) : Rat := Rat.divInt (pkI a 1999 - 999) (1 + pkI b 60)
set_option maxRecDepth 100000 in
set_option maxHeartbeats 8000000 in
theorem small_go (a b : Int) (ha : -9223372036854775808 ≤ a ∧ a ≤ 9223372036854775807) (hb : -9223372036854775808 ≤ b ∧ b ≤ 9223372036854775807) (w : World) :
    Calls Tryz.prog 14 #[.agg #[.int .i64 a, .int .i64 b]] w fun e w' => e = .returned (qv (some (smQ a b))) ∧ Below w.heap.size w w' := by
  have p0 := pkI_lo (c := a) (n := 1999) (by decide)
  have p1 := pkI_hi (c := a) (n := 1999) (by decide)
  have q0 := pkI_lo (c := b) (n := 60) (by decide)
  have q1 := pkI_hi (c := b) (n := 60) (by decide)
  have c1 := fun W => rpick_of a 1999 (by decide) ha.1 ha.2 W
  have c2 := fun W => rpick_of b 60 (by decide) hb.1 hb.2 W
  have cO := fun W => rof_go (pkI a 1999 - 999) (1 + pkI b 60) (by omega) (by omega) (by omega) (by omega) (by omega) W
  show Calls Tryz.prog 14 #[.agg #[.int .i64 a, .int .i64 b]] w fun e w' => e = .returned (.agg #[.string (dec (smQ a b).num), .string (dec ((smQ a b).den : Int))]) ∧ Below w.heap.size w w'
  rw [← smQ] at cO
  generalize dec (smQ a b).num = x at *
  generalize dec ((smQ a b).den : Int) = y at *
  generalize pkI a 1999 = u at *
  generalize pkI b 60 = v at *
  have e1 : IntKind.i64.wrap (u - 999) = u - 999 := IntWalk.i64_in _ (by omega)
  have e2 : IntKind.i64.wrap (1 + v) = 1 + v := IntWalk.i64_in _ (by omega)
  obtain ⟨u2, hu2⟩ : ∃ u2, u2 = u - 999 := ⟨_, rfl⟩
  obtain ⟨v2, hv2⟩ : ∃ v2, v2 = 1 + v := ⟨_, rfl⟩
  have e1' : IntKind.i64.wrap (u - 999) = u2 := by rw [e1, hu2]
  have e2' : IntKind.i64.wrap (1 + v) = v2 := by rw [e2, hv2]
  rw [← hu2, ← hv2] at cO
  clear e1 e2 hu2 hv2 p0 p1 q0 q1
  obtain ⟨W0, hW0⟩ : ∃ W0, W0 = (w.alloc (.cells #[.int .i64 a, .int .i64 b] 25)).alloc (.cells #[.string ⟨#[]⟩, .string ⟨#[]⟩] 23) := ⟨_, rfl⟩
  have h0 : Sm w a b W0 := by
    rw [hW0]
    exact ⟨keep_alloc (below_alloc w _) _, (Row.made w _ _).later _, _, _, Row.made_at _ _ _ (by simp)⟩
  have kk : ∀ W, Sm w a b W → (Hid (Sm w a b W) ∧ W.cell? ⟨w.heap.size, 0, none⟩ = some (.int .i64 a) ∧ W.cell? ⟨w.heap.size, 1, none⟩ = some (.int .i64 b)) := fun W h => ⟨Lib.hid h, (two_cells h.2.1).1, (two_cells h.2.1).2.1⟩
  have gg : ∀ W, (Hid (Sm w a b W) ∧ W.cell? ⟨w.heap.size, 0, none⟩ = some (.int .i64 a) ∧ W.cell? ⟨w.heap.size, 1, none⟩ = some (.int .i64 b)) → Sm w a b W := fun W h => h.1.out
  have F0 : w.heap.size + 1 < W0.heap.size := h0.2.2.inside
  have KK := Lib.hid kk; have GG := Lib.hid gg; have H0 := Lib.hid h0; have C1 := Lib.hid c1; have C2 := Lib.hid c2; have CO := Lib.hid cO
  clear kk gg h0 c1 c2 cO ha hb
  go_enter Tryz.func14, Tryz.ntmps14
  go_upto_region 1 with fail
  rw [← hW0]
  clear hW0
  go_cut [3] (fun s3 W => ∃ g, s3 = .pointer (some ⟨g, 0, none⟩) ∧ RRow W g x y ∧ g ≠ w.heap.size + 1 ∧ Sm w a b W)
  case first =>
    go_region_held3 (fun W => Hid (Sm w a b W) ∧ W.cell? ⟨w.heap.size, 0, none⟩ = some (.int .i64 a) ∧ W.cell? ⟨w.heap.size, 1, none⟩ = some (.int .i64 b))
      (first | assumption | exact KK.out _ H0.out.drew | exact KK.out _ (Sm.step (GG.out _ (by assumption)) (by assumption)) | exact KK.out _ (Sm.step (GG.out _ (by assumption)) (below_alloc _ _)) | exact KK.out _ (Sm.step HB (below_alloc _ _)) | exact KK.out _ (Sm.far (GG.out _ (by assumption)) (by assumption) _ _))
      (first
        | (go_at_call 46; ((with_reducible refine (C1.out _).mono ?_); rintro e wx ⟨rfl, hwx⟩; have hwx := hwx.symm; subst hwx))
        | (go_at_call 46; ((with_reducible refine (C2.out _).mono ?_); rintro e wx ⟨rfl, hwx⟩; have hwx := hwx.symm; subst hwx))
        | (go_at_call 32; ((with_reducible refine (CO.out _).mono ?_); rintro e y7 ⟨rfl, z7⟩; have HB := Sm.step (GG.out _ (by assumption)) z7; have F7 : w.heap.size + 1 < y7.heap.size := HB.2.2.inside; try (have N7 := RAny.over (RAny.drew (RAny.made W0 ⟨#[]⟩ ⟨#[]⟩)) z7; obtain ⟨q0, q1, q2, q3⟩ := N7.eqs))))
    all_goals go_wp2_with fail
    all_goals go_meet
    all_goals (case rel => first | exact ⟨_, rfl, Row.made _ _ _, Nat.ne_of_gt F7, Sm.step HB (below_alloc _ _)⟩ | exact ⟨_, rfl, rat_put N7 _ _, Nat.ne_of_gt F0, Sm.far HB F0 _ _⟩)
  case rest =>
    obtain ⟨g, rfl, hr, hg, hs⟩ := hcut
    obtain ⟨i0, i1, _, _⟩ := two_cells hr
    obtain ⟨j0, j1, f0, f1⟩ := hs.2.2.eqs
    have HI := Lib.hid hs
    clear hs hr
    go_wp2
    (try simp only [Exit.inBlock, Exit.then])
    refine bodyPost_ret (res_r rfl rfl (rat_put HI.out.2.2 _ _)) rfl ?_
    exact ⟨rfl, below_put HI.out.1 (Nat.le_succ _) _ _⟩
end Go.Proofs.YtgpncnnlhhmjaaaGreatDoor
