/- What the reference's Long hands back; RationalLowest: the walk. -/
import Derived.Test.YtgpncnnlhhmjaaaGreatDoorLong
namespace Go.Proofs.YtgpncnnlhhmjaaaGreatDoor
open Go.RowKit

/-- Two texts that are a fraction of at most 100 digits. -/
def LQ (N D : ByteArray) : Prop := ∃ q : Rat, N = dec q.num ∧ D = dec (q.den : Int) ∧ q.num.natAbs < 10 ^ 100 ∧ q.den < 10 ^ 100
def I64 (x : Int) : Prop := -9223372036854775808 ≤ x ∧ x ≤ 9223372036854775807
theorem long_nd (a b c d : Int) (ha : I64 a) (hb : I64 b) (hc : I64 c) (hd : I64 d) (w : World) :
    Calls Tryz.prog 13 #[.agg #[.int .i64 a, .int .i64 b, .int .i64 c, .int .i64 d]] w fun e w' => ∃ N D, e = .returned (rv N D) ∧ LQ N D ∧ Below w.heap.size w w' := by
  refine (long_go a b c d ha hb hc hd w).mono ?_
  rintro e w' ⟨q, rfl, h1, h2, h3⟩
  exact ⟨_, _, rfl, ⟨q, rfl, rfl, h1, h2⟩, h3⟩
theorem hund_fits {z : Int} {k : Nat} (h : z.natAbs < 10 ^ k) (hk : k ≤ 200) : fits z = true := by
  unfold fits lim
  rw [decide_eq_true_eq]
  exact Nat.lt_of_lt_of_le h (Nat.pow_le_pow_right (by decide) hk)
theorem lq_ok {q : Rat} (h1 : q.num.natAbs < 10 ^ 100) (h2 : q.den < 10 ^ 100) : okO (some q) = true := okQ_iff.2 ⟨hund_fits h1 (by decide), hund_fits (by rw [Int.natAbs_natCast]; exact h2) (by decide)⟩
theorem rmul_at {x y : Int} (fx : fits x = true) (fy : fits y = true) (fz : fits (x * y) = true) (W : World) : Calls Tryz.prog 44 #[.string (dec x), .string (dec y)] W fun e w' => e = .returned (.tuple #[.string (dec (x * y)), .int .i64 0]) ∧ Below W.heap.size W w' := by
  have h := rmul_any (dec x) (dec y) (dec_le fx) (dec_le fy) W
  rw [opT_dec _ fx fy, opE_dec _ fx fy, outT_fits fz, outE_fits fz] at h
  exact h
/-- All that RationalLowest calls, at a fraction. -/
def LowC (N D : ByteArray) (k : Int) (B n d T : ByteArray) : Prop :=
  (∀ W, Calls Tryz.prog 43 #[.int .i64 k] W fun e w' => e = .returned (.string B) ∧ Below W.heap.size W w') ∧
  (∀ W, Calls Tryz.prog 44 #[.string N, .string B] W fun e w' => e = .returned (.tuple #[.string n, .int .i64 0]) ∧ Below W.heap.size W w') ∧
  (∀ W, Calls Tryz.prog 44 #[.string D, .string B] W fun e w' => e = .returned (.tuple #[.string d, .int .i64 0]) ∧ Below W.heap.size W w') ∧
  (∀ W, Tab W → Calls Tryz.prog 27 #[.string n, .string d] W fun e w' => e = .returned (.tuple #[.agg #[.string N, .string D], .int .i64 0]) ∧ Below W.heap.size W w') ∧
  (∀ W, Tab W → Calls Tryz.prog 27 #[.string N, .string D] W fun e w' => e = .returned (.tuple #[.agg #[.string N, .string D], .int .i64 0]) ∧ Below W.heap.size W w') ∧
  (∀ W, Tab W → Calls Tryz.prog 27 #[.string ⟨#[48]⟩, .string B] W fun e w' => e = .returned (.tuple #[.agg #[.string ⟨#[48]⟩, .string ⟨#[49]⟩], .int .i64 0]) ∧ Below W.heap.size W w') ∧
  (∀ W, Tab W → Calls Tryz.prog 29 #[.agg #[.string N, .string D]] W fun e w' => e = .returned (.bool true) ∧ Below W.heap.size W w') ∧
  (∀ W, Tab W → Calls Tryz.prog 20 #[.agg #[.string N, .string D], .agg #[.string N, .string D]] W fun e w' => e = .returned (.int .i64 0) ∧ Below W.heap.size W w') ∧
  (∀ W, Tab W → Calls Tryz.prog 33 #[.agg #[.string N, .string D]] W fun e w' => e = .returned (.string T) ∧ Below W.heap.size W w')
theorem low_c {N D : ByteArray} (h : LQ N D) (k : Int) (h0 : k ≠ 0) (hk : k.natAbs ≤ 1000000) : ∃ B n d T, LowC N D k B n d T := by
  obtain ⟨q, rfl, rfl, h1, h2⟩ := h
  have fk : fits k = true := fits_tiny (by omega)
  have fn := hund_fits h1 (by decide)
  have fd : fits (q.den : Int) = true := hund_fits (k := 100) (by rw [Int.natAbs_natCast]; exact h2) (by decide)
  have kk : k.natAbs < 10 ^ 7 := Nat.lt_of_le_of_lt hk (by decide)
  have fnk : fits (q.num * k) = true := hund_fits (k := 107) (by rw [Nat.pow_add 10 100 7]; exact abs_mul h1 kk) (by decide)
  have fdk : fits ((q.den : Int) * k) = true := hund_fits (k := 107) (by rw [Nat.pow_add 10 100 7]; exact abs_mul (by rw [Int.natAbs_natCast]; exact h2) kk) (by decide)
  have ok := lq_ok h1 h2
  refine ⟨dec k, dec (q.num * k), dec (q.den * k), prO (some q), fun W => rfrom_any k (by omega) (by omega) W, fun W => rmul_at fn fk fnk W, fun W => rmul_at fd fk fdk W, fun W h => ?_, fun W h => ?_, fun W h => ?_, fun W h => ?_, fun W h => ?_, fun W h => ?_⟩
  · have := make_of (dec (q.num * k)) (dec (q.den * k)) W h
    rw [make_dec fnk fdk (Int.mul_ne_zero (den_ne q) h0), Rat.divInt_mul_right h0, self_divInt] at this
    exact this
  · have := make_of (dec q.num) (dec (q.den : Int)) W h
    rw [make_dec fn fd (den_ne q), self_divInt] at this
    exact this
  · have := make_of ⟨#[48]⟩ (dec k) W h
    rw [l0, make_dec (fits_tiny (by decide)) fk h0, Rat.zero_divInt] at this
    have z : ov (some 0) = .tuple #[.agg #[.string ⟨#[48]⟩, .string ⟨#[49]⟩], .int .i64 0] := by
      show Value.tuple #[.agg #[.string (dec (0 : Rat).num), .string (dec ((0 : Rat).den : Int))], .int .i64 0] = _
      rw [l0, l1]; rfl
    rw [z, ← l0] at this
    exact this
  · have := valid_q ok W h
    exact this
  · have := cmp_q ok ok W h
    have z : cmpO (some q) (some q) = 0 := cmpQ_self q
    rw [z] at this
    exact this
  · exact print_q ok W h
set_option maxRecDepth 1000000 in
set_option maxHeartbeats 40000000 in
theorem lowest_go (x0 x1 x2 x3 factor k : Int) (sign : Bool) (h0 : I64 x0) (h1 : I64 x1) (h2 : I64 x2) (h3 : I64 x3) (hf : I64 factor) (hk : k = if sign then -(1 + pkI factor 1000000) else 1 + pkI factor 1000000) (w : World) (ht : Tab w)
    (hsane : ∀ W, Tab W → Calls Tryz.prog 11 #[] W fun e w' => e = .returned (.bool true) ∧ Below W.heap.size W w') :
    Calls Tryz.prog 9 #[.agg #[.int .i64 x0, .int .i64 x1, .int .i64 x2, .int .i64 x3], .int .i64 factor, .bool sign] w fun e w' => e = .returned (.bool true) ∧ Below w.heap.size w w' := by
  have p0 := pkI_lo (c := factor) (n := 1000000) (by decide)
  have p1 := pkI_hi (c := factor) (n := 1000000) (by decide)
  have k0 : k ≠ 0 := by rw [hk]; split <;> omega
  have k1 : k.natAbs ≤ 1000000 := by rw [hk]; split <;> omega
  have cL := fun W => long_nd x0 x1 x2 x3 h0 h1 h2 h3 W
  have cP := fun W => pick_of factor 1000000 (by decide) hf.1 hf.2 W
  have cF := fun (N D : ByteArray) (h : LQ N D) => low_c h k k0 k1
  generalize pkI factor 1000000 = p at *
  have e1 : IntKind.i64.wrap (1 + p) = 1 + p := IntWalk.i64_in _ (by omega)
  have e2 : IntKind.i64.wrap (-(1 + p)) = -(1 + p) := IntWalk.i64_in _ (by omega)
  have v0 : Iv w [] (w.alloc (.cells #[.int .i64 x0, .int .i64 x1, .int .i64 x2, .int .i64 x3] 24)) := ⟨below_alloc w _, trivial⟩
  have r0 := Row.made w 24 #[.int .i64 x0, .int .i64 x1, .int .i64 x2, .int .i64 x3]
  have T0 := Lib.hid ht; have CS := Lib.hid hsane; have CL := Lib.hid cL; have CP := Lib.hid cP; have CF := Lib.hid cF; have CI := Lib.hid is_of; have V0 := v0; have R0 := Lib.hid r0; have P0 := Lib.hid (ht.below v0.b)
  clear ht hsane cL cP cF v0 r0 p0 p1 k0 k1 h0 h1 h2 h3 hf
  have both : ∀ s, s = sign → Calls Tryz.prog 9 #[.agg #[.int .i64 x0, .int .i64 x1, .int .i64 x2, .int .i64 x3], .int .i64 factor, .bool s] w fun e w' => e = .returned (.bool true) ∧ Below w.heap.size w w' := by
    intro s hs
    subst hs
    cases s
    · rw [if_neg (by decide)] at hk
      have e5 : IntKind.i64.wrap (1 + p) = k := by rw [e1, hk]
      clear e1 e2 hk
      go_enter Tryz.func9, Tryz.ntmps9
      go_upto_region 12 with (first
        | (go_at_call 11; (with_reducible refine (CS.out _ P0.out).mono ?_); rintro e w1 ⟨rfl, b1⟩; have V1 := Iv.step V0 b1; have P1 := Lib.hid (T0.out.below (Iv.b V1)); obtain ⟨c0, c1, c2, c3⟩ := four_cells (Row.over R0.out b1))
        | (go_at_call 13; (with_reducible refine (CL.out _).mono ?_); rintro e w2 ⟨N, D, rfl, hLQ, b2⟩; obtain ⟨B, n, d, T, f1, f2, f3, f4, f5, f6, f7, f8, f9⟩ := CF.out N D hLQ; have F1 := Lib.hid f1; have F2 := Lib.hid f2; have F3 := Lib.hid f3; have F4 := Lib.hid f4; have F5 := Lib.hid f5; have F6 := Lib.hid f6; have F7 := Lib.hid f7; have F8 := Lib.hid f8; have F9 := Lib.hid f9; clear f1 f2 f3 f4 f5 f6 f7 f8 f9 hLQ c0 c1 c2 c3; have V2 := Iv.push (Iv.step V1 b2) N D; have P2 := Lib.hid (T0.out.below (Iv.b V2)))
        | (go_at_call 22; (with_reducible refine (CP.out _).mono ?_); rintro e wx ⟨rfl, hwx⟩; have hwx := hwx.symm; subst hwx)
        | (go_at_call 43; (with_reducible refine (F1.out _).mono ?_); rintro e w3 ⟨rfl, b3⟩; have V3 := Iv.step V2 b3; have P3 := Lib.hid (T0.out.below (Iv.b V3)); have q3 := Iv.eqs V3; simp only [Cx] at q3)
        | (go_at_call 44; (with_reducible refine (F2.out _).mono ?_); rintro e w4 ⟨rfl, b4⟩; have V4 := Iv.step V3 b4; have P4 := Lib.hid (T0.out.below (Iv.b V4)); have q4 := Iv.eqs V4; simp only [Cx] at q4)
        | (go_at_call 44; (with_reducible refine (F3.out _).mono ?_); rintro e w5 ⟨rfl, b5⟩; have V5 := Iv.step V4 b5; have P5 := Lib.hid (T0.out.below (Iv.b V5)))
        | (go_at_call 27; (with_reducible refine (F4.out _ P5.out).mono ?_); rintro e w6 ⟨rfl, b6⟩; have V6 := Iv.push (Iv.step V5 b6) N D; have P6 := Lib.hid (T0.out.below (Iv.b V6)); have q6 := Iv.eqs V6; simp only [Cx] at q6)
        | (go_at_call 27; (with_reducible refine (F5.out _ P6.out).mono ?_); rintro e w7 ⟨rfl, b7⟩; have V7 := Iv.push (Iv.step V6 b7) N D; have P7 := Lib.hid (T0.out.below (Iv.b V7)))
        | (go_at_call 27; (with_reducible refine (F6.out _ P7.out).mono ?_); rintro e w8 ⟨rfl, b8⟩; have V8 := Iv.push (Iv.step V7 b8) ⟨#[48]⟩ ⟨#[49]⟩; have P8 := Lib.hid (T0.out.below (Iv.b V8)))
        | fail)
      clear V0 V1 V2 V3 V4 V5 V6 V7 P0 P1 P2 P3 P4 P5 P6 P7 P8 b1 b2 b3 b4 b5 b6 b7 b8 q3 q4 q6 CS CL CP CF F1 F2 F3 F4 F5 F6 R0
      obtain ⟨WA, hWA⟩ : ∃ WA, WA = w8.alloc (.cells #[.string ⟨#[48]⟩, .string ⟨#[49]⟩] 23) := ⟨_, rfl⟩
      rw [← hWA] at V8 ⊢
      clear hWA
      have kk : ∀ W, Iv w ((w8.heap.size, ⟨#[48]⟩, ⟨#[49]⟩) :: (w7.heap.size, N, D) :: (w6.heap.size, N, D) :: (w2.heap.size, N, D) :: []) W → (Hid (Iv w ((w8.heap.size, ⟨#[48]⟩, ⟨#[49]⟩) :: (w7.heap.size, N, D) :: (w6.heap.size, N, D) :: (w2.heap.size, N, D) :: []) W) ∧ W.cell? ⟨w8.heap.size, 0, none⟩ = some (.string ⟨#[48]⟩) ∧ W.cell? ⟨w8.heap.size, 1, none⟩ = some (.string ⟨#[49]⟩) ∧ W.cell? ⟨w7.heap.size, 0, none⟩ = some (.string N) ∧ W.cell? ⟨w7.heap.size, 1, none⟩ = some (.string D) ∧ W.cell? ⟨w6.heap.size, 0, none⟩ = some (.string N) ∧ W.cell? ⟨w6.heap.size, 1, none⟩ = some (.string D) ∧ W.cell? ⟨w2.heap.size, 0, none⟩ = some (.string N) ∧ W.cell? ⟨w2.heap.size, 1, none⟩ = some (.string D) ∧ True) := fun W h => ⟨Lib.hid h, h.eqs⟩
      have gg : ∀ W, (Hid (Iv w ((w8.heap.size, ⟨#[48]⟩, ⟨#[49]⟩) :: (w7.heap.size, N, D) :: (w6.heap.size, N, D) :: (w2.heap.size, N, D) :: []) W) ∧ W.cell? ⟨w8.heap.size, 0, none⟩ = some (.string ⟨#[48]⟩) ∧ W.cell? ⟨w8.heap.size, 1, none⟩ = some (.string ⟨#[49]⟩) ∧ W.cell? ⟨w7.heap.size, 0, none⟩ = some (.string N) ∧ W.cell? ⟨w7.heap.size, 1, none⟩ = some (.string D) ∧ W.cell? ⟨w6.heap.size, 0, none⟩ = some (.string N) ∧ W.cell? ⟨w6.heap.size, 1, none⟩ = some (.string D) ∧ W.cell? ⟨w2.heap.size, 0, none⟩ = some (.string N) ∧ W.cell? ⟨w2.heap.size, 1, none⟩ = some (.string D) ∧ True) → Iv w ((w8.heap.size, ⟨#[48]⟩, ⟨#[49]⟩) :: (w7.heap.size, N, D) :: (w6.heap.size, N, D) :: (w2.heap.size, N, D) :: []) W := fun W h => h.1.out
      have KK := Lib.hid kk; have GG := Lib.hid gg; have HA := Lib.hid V8
      clear kk gg V8
      go_region_held3 (fun W => Hid (Iv w ((w8.heap.size, ⟨#[48]⟩, ⟨#[49]⟩) :: (w7.heap.size, N, D) :: (w6.heap.size, N, D) :: (w2.heap.size, N, D) :: []) W) ∧ W.cell? ⟨w8.heap.size, 0, none⟩ = some (.string ⟨#[48]⟩) ∧ W.cell? ⟨w8.heap.size, 1, none⟩ = some (.string ⟨#[49]⟩) ∧ W.cell? ⟨w7.heap.size, 0, none⟩ = some (.string N) ∧ W.cell? ⟨w7.heap.size, 1, none⟩ = some (.string D) ∧ W.cell? ⟨w6.heap.size, 0, none⟩ = some (.string N) ∧ W.cell? ⟨w6.heap.size, 1, none⟩ = some (.string D) ∧ W.cell? ⟨w2.heap.size, 0, none⟩ = some (.string N) ∧ W.cell? ⟨w2.heap.size, 1, none⟩ = some (.string D) ∧ True)
        (first | assumption | exact KK.out _ HA.out.drew | exact KK.out _ (Iv.step (GG.out _ (by assumption)) (by assumption)))
        (first
          | (go_at_call 41; ((with_reducible refine (CI.out _ _ _).mono ?_); rintro e y6 ⟨rfl, z6⟩))
          | (go_at_call 33; ((with_reducible refine (F9.out _ (T0.out.below (Iv.b (GG.out _ (by assumption))))).mono ?_); rintro e y7 ⟨rfl, z7⟩))
          | (go_at_call 20; ((with_reducible refine (F8.out _ (T0.out.below (Iv.b (GG.out _ (by assumption))))).mono ?_); rintro e y8 ⟨rfl, z8⟩))
          | (go_at_call 29; ((with_reducible refine (F7.out _ (T0.out.below (Iv.b (GG.out _ (by assumption))))).mono ?_); rintro e y9 ⟨rfl, z9⟩)))
      all_goals go_wp2
      all_goals go_ret
      all_goals exact ⟨rfl, (GG.out _ (by assumption)).b⟩
    · rw [if_pos rfl] at hk
      obtain ⟨m, hm⟩ : ∃ m, m = 1 + p := ⟨_, rfl⟩
      have e5 : IntKind.i64.wrap (1 + p) = m := by rw [e1, hm]
      have e6 : IntKind.i64.wrap (-m) = k := by rw [hm, e2, hk]
      clear hm hk e1 e2
      go_enter Tryz.func9, Tryz.ntmps9
      go_upto_region 12 with (first
        | (go_at_call 11; (with_reducible refine (CS.out _ P0.out).mono ?_); rintro e w1 ⟨rfl, b1⟩; have V1 := Iv.step V0 b1; have P1 := Lib.hid (T0.out.below (Iv.b V1)); obtain ⟨c0, c1, c2, c3⟩ := four_cells (Row.over R0.out b1))
        | (go_at_call 13; (with_reducible refine (CL.out _).mono ?_); rintro e w2 ⟨N, D, rfl, hLQ, b2⟩; obtain ⟨B, n, d, T, f1, f2, f3, f4, f5, f6, f7, f8, f9⟩ := CF.out N D hLQ; have F1 := Lib.hid f1; have F2 := Lib.hid f2; have F3 := Lib.hid f3; have F4 := Lib.hid f4; have F5 := Lib.hid f5; have F6 := Lib.hid f6; have F7 := Lib.hid f7; have F8 := Lib.hid f8; have F9 := Lib.hid f9; clear f1 f2 f3 f4 f5 f6 f7 f8 f9 hLQ c0 c1 c2 c3; have V2 := Iv.push (Iv.step V1 b2) N D; have P2 := Lib.hid (T0.out.below (Iv.b V2)))
        | (go_at_call 22; (with_reducible refine (CP.out _).mono ?_); rintro e wx ⟨rfl, hwx⟩; have hwx := hwx.symm; subst hwx)
        | (go_at_call 43; (with_reducible refine (F1.out _).mono ?_); rintro e w3 ⟨rfl, b3⟩; have V3 := Iv.step V2 b3; have P3 := Lib.hid (T0.out.below (Iv.b V3)); have q3 := Iv.eqs V3; simp only [Cx] at q3)
        | (go_at_call 44; (with_reducible refine (F2.out _).mono ?_); rintro e w4 ⟨rfl, b4⟩; have V4 := Iv.step V3 b4; have P4 := Lib.hid (T0.out.below (Iv.b V4)); have q4 := Iv.eqs V4; simp only [Cx] at q4)
        | (go_at_call 44; (with_reducible refine (F3.out _).mono ?_); rintro e w5 ⟨rfl, b5⟩; have V5 := Iv.step V4 b5; have P5 := Lib.hid (T0.out.below (Iv.b V5)))
        | (go_at_call 27; (with_reducible refine (F4.out _ P5.out).mono ?_); rintro e w6 ⟨rfl, b6⟩; have V6 := Iv.push (Iv.step V5 b6) N D; have P6 := Lib.hid (T0.out.below (Iv.b V6)); have q6 := Iv.eqs V6; simp only [Cx] at q6)
        | (go_at_call 27; (with_reducible refine (F5.out _ P6.out).mono ?_); rintro e w7 ⟨rfl, b7⟩; have V7 := Iv.push (Iv.step V6 b7) N D; have P7 := Lib.hid (T0.out.below (Iv.b V7)))
        | (go_at_call 27; (with_reducible refine (F6.out _ P7.out).mono ?_); rintro e w8 ⟨rfl, b8⟩; have V8 := Iv.push (Iv.step V7 b8) ⟨#[48]⟩ ⟨#[49]⟩; have P8 := Lib.hid (T0.out.below (Iv.b V8)))
        | fail)
      clear V0 V1 V2 V3 V4 V5 V6 V7 P0 P1 P2 P3 P4 P5 P6 P7 P8 b1 b2 b3 b4 b5 b6 b7 b8 q3 q4 q6 CS CL CP CF F1 F2 F3 F4 F5 F6 R0
      obtain ⟨WA, hWA⟩ : ∃ WA, WA = w8.alloc (.cells #[.string ⟨#[48]⟩, .string ⟨#[49]⟩] 23) := ⟨_, rfl⟩
      rw [← hWA] at V8 ⊢
      clear hWA
      have kk : ∀ W, Iv w ((w8.heap.size, ⟨#[48]⟩, ⟨#[49]⟩) :: (w7.heap.size, N, D) :: (w6.heap.size, N, D) :: (w2.heap.size, N, D) :: []) W → (Hid (Iv w ((w8.heap.size, ⟨#[48]⟩, ⟨#[49]⟩) :: (w7.heap.size, N, D) :: (w6.heap.size, N, D) :: (w2.heap.size, N, D) :: []) W) ∧ W.cell? ⟨w8.heap.size, 0, none⟩ = some (.string ⟨#[48]⟩) ∧ W.cell? ⟨w8.heap.size, 1, none⟩ = some (.string ⟨#[49]⟩) ∧ W.cell? ⟨w7.heap.size, 0, none⟩ = some (.string N) ∧ W.cell? ⟨w7.heap.size, 1, none⟩ = some (.string D) ∧ W.cell? ⟨w6.heap.size, 0, none⟩ = some (.string N) ∧ W.cell? ⟨w6.heap.size, 1, none⟩ = some (.string D) ∧ W.cell? ⟨w2.heap.size, 0, none⟩ = some (.string N) ∧ W.cell? ⟨w2.heap.size, 1, none⟩ = some (.string D) ∧ True) := fun W h => ⟨Lib.hid h, h.eqs⟩
      have gg : ∀ W, (Hid (Iv w ((w8.heap.size, ⟨#[48]⟩, ⟨#[49]⟩) :: (w7.heap.size, N, D) :: (w6.heap.size, N, D) :: (w2.heap.size, N, D) :: []) W) ∧ W.cell? ⟨w8.heap.size, 0, none⟩ = some (.string ⟨#[48]⟩) ∧ W.cell? ⟨w8.heap.size, 1, none⟩ = some (.string ⟨#[49]⟩) ∧ W.cell? ⟨w7.heap.size, 0, none⟩ = some (.string N) ∧ W.cell? ⟨w7.heap.size, 1, none⟩ = some (.string D) ∧ W.cell? ⟨w6.heap.size, 0, none⟩ = some (.string N) ∧ W.cell? ⟨w6.heap.size, 1, none⟩ = some (.string D) ∧ W.cell? ⟨w2.heap.size, 0, none⟩ = some (.string N) ∧ W.cell? ⟨w2.heap.size, 1, none⟩ = some (.string D) ∧ True) → Iv w ((w8.heap.size, ⟨#[48]⟩, ⟨#[49]⟩) :: (w7.heap.size, N, D) :: (w6.heap.size, N, D) :: (w2.heap.size, N, D) :: []) W := fun W h => h.1.out
      have KK := Lib.hid kk; have GG := Lib.hid gg; have HA := Lib.hid V8
      clear kk gg V8
      go_region_held3 (fun W => Hid (Iv w ((w8.heap.size, ⟨#[48]⟩, ⟨#[49]⟩) :: (w7.heap.size, N, D) :: (w6.heap.size, N, D) :: (w2.heap.size, N, D) :: []) W) ∧ W.cell? ⟨w8.heap.size, 0, none⟩ = some (.string ⟨#[48]⟩) ∧ W.cell? ⟨w8.heap.size, 1, none⟩ = some (.string ⟨#[49]⟩) ∧ W.cell? ⟨w7.heap.size, 0, none⟩ = some (.string N) ∧ W.cell? ⟨w7.heap.size, 1, none⟩ = some (.string D) ∧ W.cell? ⟨w6.heap.size, 0, none⟩ = some (.string N) ∧ W.cell? ⟨w6.heap.size, 1, none⟩ = some (.string D) ∧ W.cell? ⟨w2.heap.size, 0, none⟩ = some (.string N) ∧ W.cell? ⟨w2.heap.size, 1, none⟩ = some (.string D) ∧ True)
        (first | assumption | exact KK.out _ HA.out.drew | exact KK.out _ (Iv.step (GG.out _ (by assumption)) (by assumption)))
        (first
          | (go_at_call 41; ((with_reducible refine (CI.out _ _ _).mono ?_); rintro e y6 ⟨rfl, z6⟩))
          | (go_at_call 33; ((with_reducible refine (F9.out _ (T0.out.below (Iv.b (GG.out _ (by assumption))))).mono ?_); rintro e y7 ⟨rfl, z7⟩))
          | (go_at_call 20; ((with_reducible refine (F8.out _ (T0.out.below (Iv.b (GG.out _ (by assumption))))).mono ?_); rintro e y8 ⟨rfl, z8⟩))
          | (go_at_call 29; ((with_reducible refine (F7.out _ (T0.out.below (Iv.b (GG.out _ (by assumption))))).mono ?_); rintro e y9 ⟨rfl, z9⟩)))
      all_goals go_wp2
      all_goals go_ret
      all_goals exact ⟨rfl, (GG.out _ (by assumption)).b⟩
  exact both sign rfl
theorem lowest_walk (x0 x1 x2 x3 factor : Int) (sign : Bool) (h0 : I64 x0) (h1 : I64 x1) (h2 : I64 x2) (h3 : I64 x3) (hf : I64 factor) (w : World) (ht : Tab w)
    (hsane : ∀ W, Tab W → Calls Tryz.prog 11 #[] W fun e w' => e = .returned (.bool true) ∧ Below W.heap.size W w') :
    Calls Tryz.prog 9 #[.agg #[.int .i64 x0, .int .i64 x1, .int .i64 x2, .int .i64 x3], .int .i64 factor, .bool sign] w fun e w' => e = .returned (.bool true) ∧ Below w.heap.size w w' :=
  lowest_go x0 x1 x2 x3 factor _ sign h0 h1 h2 h3 hf rfl w ht hsane
end Go.Proofs.YtgpncnnlhhmjaaaGreatDoor
