/- The laws' sane: fixed examples. -/
import Derived.Test.YtgpncnnlhhmjaaaGreatDoorMin
namespace Go.Proofs.YtgpncnnlhhmjaaaGreatDoor
open Go.RowKit

theorem tp3 : (⟨#[51]⟩ : ByteArray) = dec 3 := by rw [show (3 : Int) = ((3 : Nat) : Int) from rfl, dec_nat]; simp [Lib.decDigits, str]
theorem tp4 : (⟨#[52]⟩ : ByteArray) = dec 4 := by rw [show (4 : Int) = ((4 : Nat) : Int) from rfl, dec_nat]; simp [Lib.decDigits, str]
theorem tp5 : (⟨#[53]⟩ : ByteArray) = dec 5 := by rw [show (5 : Int) = ((5 : Nat) : Int) from rfl, dec_nat]; simp [Lib.decDigits, str]
theorem tp6 : (⟨#[54]⟩ : ByteArray) = dec 6 := by rw [show (6 : Int) = ((6 : Nat) : Int) from rfl, dec_nat]; simp [Lib.decDigits, str]
theorem tp17 : (⟨#[49, 55]⟩ : ByteArray) = dec 17 := by rw [show (17 : Int) = ((17 : Nat) : Int) from rfl, dec_nat]; simp [Lib.decDigits, str]
theorem tp50 : (⟨#[53, 48]⟩ : ByteArray) = dec 50 := by rw [show (50 : Int) = ((50 : Nat) : Int) from rfl, dec_nat]; simp [Lib.decDigits, str]
theorem tp33333 : (⟨#[51, 51, 51, 51, 51]⟩ : ByteArray) = dec 33333 := by rw [show (33333 : Int) = ((33333 : Nat) : Int) from rfl, dec_nat]; simp [Lib.decDigits, str]
theorem tp100000 : (⟨#[49, 48, 48, 48, 48, 48]⟩ : ByteArray) = dec 100000 := by rw [show (100000 : Int) = ((100000 : Nat) : Int) from rfl, dec_nat]; simp [Lib.decDigits, str]
theorem tm3 : (⟨#[45, 51]⟩ : ByteArray) = dec (-3) := by rw [dec, Lib.itoa, if_pos (by decide)]; simp [Lib.decDigits, str]
theorem tm2 : (⟨#[45, 50]⟩ : ByteArray) = dec (-2) := by rw [dec, Lib.itoa, if_pos (by decide)]; simp [Lib.decDigits, str]
theorem tm17 : (⟨#[45, 49, 55]⟩ : ByteArray) = dec (-17) := by rw [dec, Lib.itoa, if_pos (by decide)]; simp [Lib.decDigits, str]
theorem tm1 : (⟨#[45, 49]⟩ : ByteArray) = dec (-1) := by rw [dec, Lib.itoa, if_pos (by decide)]; simp [Lib.decDigits, str]
theorem tm4 : (⟨#[45, 52]⟩ : ByteArray) = dec (-4) := by rw [dec, Lib.itoa, if_pos (by decide)]; simp [Lib.decDigits, str]
theorem tp1 : (⟨#[49]⟩ : ByteArray) = dec 1 := by rw [show (1 : Int) = ((1 : Nat) : Int) from rfl, dec_nat]; simp [Lib.decDigits, str]
theorem tp2 : (⟨#[50]⟩ : ByteArray) = dec 2 := by rw [show (2 : Int) = ((2 : Nat) : Int) from rfl, dec_nat]; simp [Lib.decDigits, str]
theorem tp0 : (⟨#[48]⟩ : ByteArray) = dec 0 := by rw [show (0 : Int) = ((0 : Nat) : Int) from rfl, dec_nat]; simp [Lib.decDigits, str]
theorem qv_lit {n d : Int} {N D : ByteArray} (hd : 0 < d) (hg : Int.gcd n d = 1) (hN : N = dec n) (hD : D = dec d) : qv (some (Rat.divInt n d)) = rv N D := by
  obtain ⟨h1, h2⟩ := divInt_low hd hg
  show rv (dec (Rat.divInt n d).num) (dec ((Rat.divInt n d).den : Int)) = _
  rw [h1, h2, hN, hD]
theorem ov_lit {o : Option Rat} {n d : Int} {N D : ByteArray} (ho : o = some (Rat.divInt n d)) (hd : 0 < d) (hg : Int.gcd n d = 1) (hN : N = dec n) (hD : D = dec d) : ov o = .tuple #[.agg #[.string N, .string D], .int .i64 0] := by
  obtain ⟨h1, h2⟩ := divInt_low hd hg
  subst ho
  show Value.tuple #[.agg #[.string (dec (Rat.divInt n d).num), .string (dec ((Rat.divInt n d).den : Int))], .int .i64 0] = _
  rw [h1, h2, hN, hD]
theorem ov_bad {o : Option Rat} (ho : o = none) : ov o = .tuple #[.agg #[.string ⟨#[]⟩, .string ⟨#[]⟩], .int .i64 40] := by subst ho; rfl
theorem print32 : prO (some (Rat.divInt (-3) 2)) = ⟨#[45, 51, 47, 50]⟩ := by
  have h : ((some (Rat.divInt (-3) 2)) : Option Rat) = some (Rat.divInt (-3) 2) := rfl
  obtain ⟨h1, h2⟩ := divInt_low (n := -3) (d := 2) (by decide) (by decide)
  have h3 : (Rat.divInt (-3) 2).den ≠ 1 := by omega
  rw [prO, if_neg h3, h1, h2, ← tm3, ← tp2]
  rfl
theorem parse32 : parseO ⟨#[45, 51, 47, 50]⟩ = (some (Rat.divInt (-3) 2)) := by
  rw [← print32]
  exact parse_print (by decide +kernel) rfl
theorem cut64 : cutN ⟨#[54, 47, 52]⟩ = ⟨#[54]⟩ ∧ cutD ⟨#[54, 47, 52]⟩ = ⟨#[52]⟩ := by
  have h : Lib.indexByte (⟨#[54, 47, 52]⟩ : ByteArray).data.toList 47 = 1 := by decide
  rw [cutN, cutD, h]
  exact ⟨rfl, rfl⟩
theorem parse64 : parseO ⟨#[54, 47, 52]⟩ = none := by
  have h : readR ⟨#[54]⟩ ⟨#[52]⟩ = none := by
    rw [l6, l4, readR, validR, num_dec, num_dec]
    rw [decide_eq_false (show ¬ Int.gcd 6 4 = 1 by decide), Bool.and_false]
    rfl
  rw [parseO, cut64.1, cut64.2, h]; rfl

set_option maxRecDepth 1000000 in
set_option maxHeartbeats 16000000 in
theorem sane_any (w : World) (ht : Tab w) :
    Calls Tryz.prog 11 #[] w fun e w' => e = .returned (.bool true) ∧ Below w.heap.size w w' := by
  have c1 : ∀ W, Tab W → Calls Tryz.prog 31 #[.int .i64 6, .int .i64 (-4)] W fun e w' => e = .returned (.tuple #[.agg #[.string ⟨#[45, 51]⟩, .string ⟨#[50]⟩], .int .i64 0]) ∧ Below W.heap.size W w' := fun W h => by have h1 := of_of 6 (-4) (by decide) (by decide) (by decide) (by decide) W h; rw [make_dec (fits_tiny (by decide)) (fits_tiny (by decide)) (by decide), (ov_lit (n := -3) (d := 2) (by decide +kernel) (by decide) (by decide) tm3 tp2)] at h1; exact h1
  have c2 : ∀ W, Tab W → Calls Tryz.prog 31 #[.int .i64 0, .int .i64 (-5)] W fun e w' => e = .returned (.tuple #[.agg #[.string ⟨#[48]⟩, .string ⟨#[49]⟩], .int .i64 0]) ∧ Below W.heap.size W w' := fun W h => by have h1 := of_of 0 (-5) (by decide) (by decide) (by decide) (by decide) W h; rw [make_dec (fits_tiny (by decide)) (fits_tiny (by decide)) (by decide), (ov_lit (n := 0) (d := 1) (by decide +kernel) (by decide) (by decide) tp0 tp1)] at h1; exact h1
  have c3 : ∀ W, Tab W → Calls Tryz.prog 31 #[.int .i64 1, .int .i64 0] W fun e w' => e = .returned (.tuple #[.agg #[.string ⟨#[]⟩, .string ⟨#[]⟩], .int .i64 40]) ∧ Below W.heap.size W w' := fun W h => by have h1 := of_of 1 0 (by decide) (by decide) (by decide) (by decide) W h; rw [make_zero, ov_bad rfl] at h1; exact h1
  have c4 : ∀ W, Tab W → Calls Tryz.prog 38 #[.agg #[.string ⟨#[49]⟩, .string ⟨#[50]⟩], .agg #[.string ⟨#[49]⟩, .string ⟨#[51]⟩]] W fun e w' => e = .returned (.tuple #[.agg #[.string ⟨#[53]⟩, .string ⟨#[54]⟩], .int .i64 0]) ∧ Below W.heap.size W w' := fun W h => by have h1 := add_q (a := (some (Rat.divInt 1 2))) (b := (some (Rat.divInt 1 3))) (by decide +kernel) (by decide +kernel) W h; rw [(qv_lit (n := 1) (d := 2) (by decide) (by decide) tp1 tp2), (qv_lit (n := 1) (d := 3) (by decide) (by decide) tp1 tp3), (ov_lit (n := 5) (d := 6) (by decide +kernel) (by decide) (by decide) tp5 tp6)] at h1; exact h1
  have c5 : ∀ W, Tab W → Calls Tryz.prog 45 #[.agg #[.string ⟨#[49]⟩, .string ⟨#[50]⟩], .agg #[.string ⟨#[45, 49]⟩, .string ⟨#[52]⟩]] W fun e w' => e = .returned (.tuple #[.agg #[.string ⟨#[45, 50]⟩, .string ⟨#[49]⟩], .int .i64 0]) ∧ Below W.heap.size W w' := fun W h => by have h1 := div_q (a := (some (Rat.divInt 1 2))) (b := (some (Rat.divInt (-1) 4))) (by decide +kernel) (by decide +kernel) W h; rw [(qv_lit (n := 1) (d := 2) (by decide) (by decide) tp1 tp2), (qv_lit (n := -1) (d := 4) (by decide) (by decide) tm1 tp4), (ov_lit (n := -2) (d := 1) (by decide +kernel) (by decide) (by decide) tm2 tp1)] at h1; exact h1
  have c6 : ∀ W, Tab W → Calls Tryz.prog 45 #[.agg #[.string ⟨#[49]⟩, .string ⟨#[49]⟩], .agg #[.string ⟨#[48]⟩, .string ⟨#[49]⟩]] W fun e w' => e = .returned (.tuple #[.agg #[.string ⟨#[]⟩, .string ⟨#[]⟩], .int .i64 40]) ∧ Below W.heap.size W w' := fun W h => by have h1 := div_q (a := (some (Rat.divInt 1 1))) (b := (some (Rat.divInt 0 1))) (by decide +kernel) (by decide +kernel) W h; rw [(qv_lit (n := 1) (d := 1) (by decide) (by decide) tp1 tp1), (qv_lit (n := 0) (d := 1) (by decide) (by decide) tp0 tp1), (ov_bad (by decide +kernel))] at h1; exact h1
  have c7 : ∀ W, Tab W → Calls Tryz.prog 23 #[.agg #[.string ⟨#[45, 49]⟩, .string ⟨#[51]⟩], .int .i64 2] W fun e w' => e = .returned (.tuple #[.agg #[.string ⟨#[45, 49, 55]⟩, .string ⟨#[53, 48]⟩], .int .i64 0]) ∧ Below W.heap.size W w' := fun W h => by have h1 := down_q (a := (some (Rat.divInt (-1) 3))) (by decide +kernel) W h 2; rw [(qv_lit (n := -1) (d := 3) (by decide) (by decide) tm1 tp3), (ov_lit (n := -17) (d := 50) (by decide +kernel) (by decide) (by decide) tm17 tp50)] at h1; exact h1
  have c8 : ∀ W, Tab W → Calls Tryz.prog 25 #[.agg #[.string ⟨#[49]⟩, .string ⟨#[51]⟩], .int .i64 2] W fun e w' => e = .returned (.tuple #[.agg #[.string ⟨#[49, 55]⟩, .string ⟨#[53, 48]⟩], .int .i64 0]) ∧ Below W.heap.size W w' := fun W h => by have h1 := up_q (a := (some (Rat.divInt 1 3))) (by decide +kernel) W h 2; rw [(qv_lit (n := 1) (d := 3) (by decide) (by decide) tp1 tp3), (ov_lit (n := 17) (d := 50) (by decide +kernel) (by decide) (by decide) tp17 tp50)] at h1; exact h1
  have c9 : ∀ W, Tab W → Calls Tryz.prog 34 #[.string ⟨#[45, 51, 47, 50]⟩] W fun e w' => e = .returned (.tuple #[.agg #[.string ⟨#[45, 51]⟩, .string ⟨#[50]⟩], .int .i64 0]) ∧ Below W.heap.size W w' := fun W h => by have h1 := parse_of ⟨#[45, 51, 47, 50]⟩ (by decide) W h; rw [(ov_lit (n := -3) (d := 2) parse32 (by decide) (by decide) tm3 tp2)] at h1; exact h1
  have c10 : ∀ W, Tab W → Calls Tryz.prog 34 #[.string ⟨#[54, 47, 52]⟩] W fun e w' => e = .returned (.tuple #[.agg #[.string ⟨#[]⟩, .string ⟨#[]⟩], .int .i64 40]) ∧ Below W.heap.size W w' := fun W h => by have h1 := parse_of ⟨#[54, 47, 52]⟩ (by decide) W h; rw [ov_bad parse64] at h1; exact h1
  have c11 : ∀ W, Tab W → Calls Tryz.prog 33 #[.agg #[.string ⟨#[45, 51]⟩, .string ⟨#[50]⟩]] W fun e w' => e = .returned (.string ⟨#[45, 51, 47, 50]⟩) ∧ Below W.heap.size W w' := fun W h => by have h1 := print_q (a := (some (Rat.divInt (-3) 2))) (by decide +kernel) W h; rw [(qv_lit (n := -3) (d := 2) (by decide) (by decide) tm3 tp2), print32] at h1; exact h1
  have c12 : ∀ W, Tab W → Calls Tryz.prog 20 #[.agg #[.string ⟨#[49]⟩, .string ⟨#[51]⟩], .agg #[.string ⟨#[51, 51, 51, 51, 51]⟩, .string ⟨#[49, 48, 48, 48, 48, 48]⟩]] W fun e w' => e = .returned (.int .i64 1) ∧ Below W.heap.size W w' := fun W h => by have h1 := cmp_q (a := (some (Rat.divInt 1 3))) (b := (some (Rat.divInt 33333 100000))) (by decide +kernel) (by decide +kernel) W h; rw [(qv_lit (n := 1) (d := 3) (by decide) (by decide) tp1 tp3), (qv_lit (n := 33333) (d := 100000) (by decide) (by decide) tp33333 tp100000), show cmpO (some (Rat.divInt 1 3)) (some (Rat.divInt 33333 100000)) = 1 by decide +kernel] at h1; exact h1
  have c13 : ∀ W, Tab W → Calls Tryz.prog 29 #[.agg #[.string ⟨#[45, 51]⟩, .string ⟨#[50]⟩]] W fun e w' => e = .returned (.bool true) ∧ Below W.heap.size W w' := fun W h => by have h1 := valid_q (a := (some (Rat.divInt (-3) 2))) (by decide +kernel) W h; rw [(qv_lit (n := -3) (d := 2) (by decide) (by decide) tm3 tp2)] at h1; exact h1
  have c14 : ∀ W, Tab W → Calls Tryz.prog 29 #[.agg #[.string ⟨#[]⟩, .string ⟨#[]⟩]] W fun e w' => e = .returned (.bool false) ∧ Below W.heap.size W w' := fun W h => by have h1 := valid_q (a := none) rfl W h; exact h1
  have C1 := Lib.hid c1; have C2 := Lib.hid c2; have C3 := Lib.hid c3; have C4 := Lib.hid c4; have C5 := Lib.hid c5; have C6 := Lib.hid c6; have C7 := Lib.hid c7; have C8 := Lib.hid c8; have C9 := Lib.hid c9; have C10 := Lib.hid c10; have C11 := Lib.hid c11; have C12 := Lib.hid c12; have C13 := Lib.hid c13; have C14 := Lib.hid c14
  have CI := Lib.hid is_of; have T0 := Lib.hid ht; have V0 : Iv w [] w := ⟨Below.refl _ _, trivial⟩
  clear ht c1 c2 c3 c4 c5 c6 c7 c8 c9 c10 c11 c12 c13 c14
  go_enter Tryz.func11, Tryz.ntmps11
  have P0 := T0
  go_upto_region 6 with (first
    | (go_at_call 45; (with_reducible refine (C5.out _ P8.out).mono ?_); rintro e w9 ⟨rfl, b9⟩; have V9 := Iv.push (Iv.step V8 b9) ⟨#[45, 50]⟩ ⟨#[49]⟩; have P9 := Lib.hid (T0.out.below (Iv.b V9)))
    | (go_at_call 41; (with_reducible refine (CI.out _ _ _).mono ?_); rintro e w8 ⟨rfl, b8⟩; have V8 := Iv.step V7 b8; have P8 := Lib.hid (T0.out.below (Iv.b V8)))
    | (go_at_call 41; (with_reducible refine (CI.out _ _ _).mono ?_); rintro e w7 ⟨rfl, b7⟩; have V7 := Iv.step V6 b7; have P7 := Lib.hid (T0.out.below (Iv.b V7)))
    | (go_at_call 38; (with_reducible refine (C4.out _ P5.out).mono ?_); rintro e w6 ⟨rfl, b6⟩; have V6 := Iv.push (Iv.step V5 b6) ⟨#[53]⟩ ⟨#[54]⟩; have P6 := Lib.hid (T0.out.below (Iv.b V6)))
    | (go_at_call 41; (with_reducible refine (CI.out _ _ _).mono ?_); rintro e w5 ⟨rfl, b5⟩; have V5 := Iv.step V4 b5; have P5 := Lib.hid (T0.out.below (Iv.b V5)))
    | (go_at_call 41; (with_reducible refine (CI.out _ _ _).mono ?_); rintro e w4 ⟨rfl, b4⟩; have V4 := Iv.step V3 b4; have P4 := Lib.hid (T0.out.below (Iv.b V4)))
    | (go_at_call 31; (with_reducible refine (C3.out _ P2.out).mono ?_); rintro e w3 ⟨rfl, b3⟩; have V3 := Iv.push (Iv.step V2 b3) ⟨#[]⟩ ⟨#[]⟩; have P3 := Lib.hid (T0.out.below (Iv.b V3)))
    | (go_at_call 31; (with_reducible refine (C2.out _ P1.out).mono ?_); rintro e w2 ⟨rfl, b2⟩; have V2 := Iv.push (Iv.step V1 b2) ⟨#[48]⟩ ⟨#[49]⟩; have P2 := Lib.hid (T0.out.below (Iv.b V2)))
    | (go_at_call 31; (with_reducible refine (C1.out _ P0.out).mono ?_); rintro e w1 ⟨rfl, b1⟩; have V1 := Iv.push (Iv.step V0 b1) ⟨#[45, 51]⟩ ⟨#[50]⟩; have P1 := Lib.hid (T0.out.below (Iv.b V1)))
    | fail)
  clear V0 V1 V2 V3 V4 V5 V6 V7 V8 P0 P1 P2 P3 P4 P5 P6 P7 P8 P9 b1 b2 b3 b4 b5 b6 b7 b8 b9
  obtain ⟨WA, hWA⟩ : ∃ WA, WA = w9.alloc (.cells #[.string ⟨#[45, 50]⟩, .string ⟨#[49]⟩] 23) := ⟨_, rfl⟩
  rw [← hWA] at V9 ⊢
  clear hWA
  have FA := Iv.new V9
  have kk : ∀ W, Iv w ((w9.heap.size, ⟨#[45, 50]⟩, ⟨#[49]⟩) :: (w6.heap.size, ⟨#[53]⟩, ⟨#[54]⟩) :: (w3.heap.size, ⟨#[]⟩, ⟨#[]⟩) :: (w2.heap.size, ⟨#[48]⟩, ⟨#[49]⟩) :: (w1.heap.size, ⟨#[45, 51]⟩, ⟨#[50]⟩) :: []) W → (Hid (Iv w ((w9.heap.size, ⟨#[45, 50]⟩, ⟨#[49]⟩) :: (w6.heap.size, ⟨#[53]⟩, ⟨#[54]⟩) :: (w3.heap.size, ⟨#[]⟩, ⟨#[]⟩) :: (w2.heap.size, ⟨#[48]⟩, ⟨#[49]⟩) :: (w1.heap.size, ⟨#[45, 51]⟩, ⟨#[50]⟩) :: []) W) ∧ W.cell? ⟨w2.heap.size, 0, none⟩ = some (.string ⟨#[48]⟩) ∧ W.cell? ⟨w2.heap.size, 1, none⟩ = some (.string ⟨#[49]⟩)) := fun W h => ⟨Lib.hid h, (h.eqs.2.2.2.2.2.2).1, (h.eqs.2.2.2.2.2.2).2.1⟩
  have gg : ∀ W, (Hid (Iv w ((w9.heap.size, ⟨#[45, 50]⟩, ⟨#[49]⟩) :: (w6.heap.size, ⟨#[53]⟩, ⟨#[54]⟩) :: (w3.heap.size, ⟨#[]⟩, ⟨#[]⟩) :: (w2.heap.size, ⟨#[48]⟩, ⟨#[49]⟩) :: (w1.heap.size, ⟨#[45, 51]⟩, ⟨#[50]⟩) :: []) W) ∧ W.cell? ⟨w2.heap.size, 0, none⟩ = some (.string ⟨#[48]⟩) ∧ W.cell? ⟨w2.heap.size, 1, none⟩ = some (.string ⟨#[49]⟩)) → Iv w ((w9.heap.size, ⟨#[45, 50]⟩, ⟨#[49]⟩) :: (w6.heap.size, ⟨#[53]⟩, ⟨#[54]⟩) :: (w3.heap.size, ⟨#[]⟩, ⟨#[]⟩) :: (w2.heap.size, ⟨#[48]⟩, ⟨#[49]⟩) :: (w1.heap.size, ⟨#[45, 51]⟩, ⟨#[50]⟩) :: []) W := fun W h => h.1.out
  have KK := Lib.hid kk; have GG := Lib.hid gg; have HA := Lib.hid V9
  clear kk gg V9
  go_cut [11, 12] (fun s11 s12 W => ∃ g, s11 = .pointer (some ⟨g, 0, none⟩) ∧ s12 = .int .i64 40 ∧ Fresh w ((w9.heap.size, ⟨#[45, 50]⟩, ⟨#[49]⟩) :: (w6.heap.size, ⟨#[53]⟩, ⟨#[54]⟩) :: (w3.heap.size, ⟨#[]⟩, ⟨#[]⟩) :: (w2.heap.size, ⟨#[48]⟩, ⟨#[49]⟩) :: (w1.heap.size, ⟨#[45, 51]⟩, ⟨#[50]⟩) :: []) g ∧ Iv w ((g, ⟨#[]⟩, ⟨#[]⟩) :: (w9.heap.size, ⟨#[45, 50]⟩, ⟨#[49]⟩) :: (w6.heap.size, ⟨#[53]⟩, ⟨#[54]⟩) :: (w3.heap.size, ⟨#[]⟩, ⟨#[]⟩) :: (w2.heap.size, ⟨#[48]⟩, ⟨#[49]⟩) :: (w1.heap.size, ⟨#[45, 51]⟩, ⟨#[50]⟩) :: []) W)
  case first =>
    go_region_held3 (fun W => Hid (Iv w ((w9.heap.size, ⟨#[45, 50]⟩, ⟨#[49]⟩) :: (w6.heap.size, ⟨#[53]⟩, ⟨#[54]⟩) :: (w3.heap.size, ⟨#[]⟩, ⟨#[]⟩) :: (w2.heap.size, ⟨#[48]⟩, ⟨#[49]⟩) :: (w1.heap.size, ⟨#[45, 51]⟩, ⟨#[50]⟩) :: []) W) ∧ W.cell? ⟨w2.heap.size, 0, none⟩ = some (.string ⟨#[48]⟩) ∧ W.cell? ⟨w2.heap.size, 1, none⟩ = some (.string ⟨#[49]⟩))
      (first | assumption | exact KK.out _ HA.out.drew | exact KK.out _ (Iv.step (GG.out _ (by assumption)) (by assumption)) | exact KK.out _ (Iv.step (GG.out _ (by assumption)) (below_alloc _ _)) | exact KK.out _ (Iv.step HB (below_alloc _ _)) | exact KK.out _ (Iv.far (GG.out _ (by assumption)) (by assumption) _ _))
      (first
        | (go_at_call 41; ((refine (CI.out _ _ _).mono ?_); rintro e y6 ⟨rfl, z6⟩; have H6 := Iv.step (GG.out _ (by assumption)) z6; have F6 := Iv.new H6; try (have N6 := RAny.over (RAny.drew (RAny.made WA ⟨#[]⟩ ⟨#[]⟩)) z6)))
        | (go_at_call 45; ((refine (C6.out _ (T0.out.below (Iv.b (GG.out _ (by assumption))))).mono ?_); rintro e y7 ⟨rfl, z7⟩; have HB := Iv.step (GG.out _ (by assumption)) z7; have F7 := Iv.new HB; try (first | (have N7 := RAny.over N6 z7; obtain ⟨q0, q1, q2, q3⟩ := N7.eqs) | (have N7 := RAny.over (RAny.made y6 ⟨#[]⟩ ⟨#[]⟩) z7; obtain ⟨q0, q1, q2, q3⟩ := N7.eqs)))))
    all_goals go_wp2_with fail
    all_goals go_meet
    all_goals (case rel => first | exact ⟨_, rfl, rfl, F7, Iv.push HB ⟨#[]⟩ ⟨#[]⟩⟩ | exact ⟨_, rfl, rfl, F6, Iv.put HB F6 N7 _ _⟩ | exact ⟨_, rfl, rfl, FA, Iv.put HB FA N7 _ _⟩)
  case rest =>
  clear HA FA KK GG
  obtain ⟨g11, rfl, rfl, fr11, V10⟩ := hcut
  have P10 := Lib.hid (T0.out.below (Iv.b V10))
  obtain ⟨w10, hw10⟩ : ∃ w10, w10 = wc := ⟨_, rfl⟩
  rw [← hw10] at V10 P10 ⊢
  clear hw10
  go_upto_region 12 with (first
    | (go_at_call 34; (with_reducible refine (C10.out _ P15.out).mono ?_); rintro e w16 ⟨rfl, b16⟩; have V16 := Iv.push (Iv.step V15 b16) ⟨#[]⟩ ⟨#[]⟩; have P16 := Lib.hid (T0.out.below (Iv.b V16)))
    | (go_at_call 34; (with_reducible refine (C9.out _ P14.out).mono ?_); rintro e w15 ⟨rfl, b15⟩; have V15 := Iv.push (Iv.step V14 b15) ⟨#[45, 51]⟩ ⟨#[50]⟩; have P15 := Lib.hid (T0.out.below (Iv.b V15)))
    | (go_at_call 25; (with_reducible refine (C8.out _ P13.out).mono ?_); rintro e w14 ⟨rfl, b14⟩; have V14 := Iv.push (Iv.step V13 b14) ⟨#[49, 55]⟩ ⟨#[53, 48]⟩; have P14 := Lib.hid (T0.out.below (Iv.b V14)))
    | (go_at_call 41; (with_reducible refine (CI.out _ _ _).mono ?_); rintro e w13 ⟨rfl, b13⟩; have V13 := Iv.step V12 b13; have P13 := Lib.hid (T0.out.below (Iv.b V13)))
    | (go_at_call 23; (with_reducible refine (C7.out _ P11.out).mono ?_); rintro e w12 ⟨rfl, b12⟩; have V12 := Iv.push (Iv.step V11 b12) ⟨#[45, 49, 55]⟩ ⟨#[53, 48]⟩; have P12 := Lib.hid (T0.out.below (Iv.b V12)))
    | (go_at_call 41; (with_reducible refine (CI.out _ _ _).mono ?_); rintro e w11 ⟨rfl, b11⟩; have V11 := Iv.step V10 b11; have P11 := Lib.hid (T0.out.below (Iv.b V11)))
    | fail)
  clear V10 P10 V11 P11 V12 P12 V13 P13 V14 P14 V15 P15 P16 b11 b12 b13 b14 b15 b16
  obtain ⟨WA, hWA⟩ : ∃ WA, WA = w16.alloc (.cells #[.string ⟨#[]⟩, .string ⟨#[]⟩] 23) := ⟨_, rfl⟩
  rw [← hWA] at V16 ⊢
  clear hWA
  have kk : ∀ W, Iv w ((w16.heap.size, ⟨#[]⟩, ⟨#[]⟩) :: (w15.heap.size, ⟨#[45, 51]⟩, ⟨#[50]⟩) :: (w14.heap.size, ⟨#[49, 55]⟩, ⟨#[53, 48]⟩) :: (w12.heap.size, ⟨#[45, 49, 55]⟩, ⟨#[53, 48]⟩) :: (g11, ⟨#[]⟩, ⟨#[]⟩) :: (w9.heap.size, ⟨#[45, 50]⟩, ⟨#[49]⟩) :: (w6.heap.size, ⟨#[53]⟩, ⟨#[54]⟩) :: (w3.heap.size, ⟨#[]⟩, ⟨#[]⟩) :: (w2.heap.size, ⟨#[48]⟩, ⟨#[49]⟩) :: (w1.heap.size, ⟨#[45, 51]⟩, ⟨#[50]⟩) :: []) W → (Hid (Iv w ((w16.heap.size, ⟨#[]⟩, ⟨#[]⟩) :: (w15.heap.size, ⟨#[45, 51]⟩, ⟨#[50]⟩) :: (w14.heap.size, ⟨#[49, 55]⟩, ⟨#[53, 48]⟩) :: (w12.heap.size, ⟨#[45, 49, 55]⟩, ⟨#[53, 48]⟩) :: (g11, ⟨#[]⟩, ⟨#[]⟩) :: (w9.heap.size, ⟨#[45, 50]⟩, ⟨#[49]⟩) :: (w6.heap.size, ⟨#[53]⟩, ⟨#[54]⟩) :: (w3.heap.size, ⟨#[]⟩, ⟨#[]⟩) :: (w2.heap.size, ⟨#[48]⟩, ⟨#[49]⟩) :: (w1.heap.size, ⟨#[45, 51]⟩, ⟨#[50]⟩) :: []) W) ∧ W.cell? ⟨w16.heap.size, 0, none⟩ = some (.string ⟨#[]⟩) ∧ W.cell? ⟨w16.heap.size, 1, none⟩ = some (.string ⟨#[]⟩) ∧ W.cell? ⟨w15.heap.size, 0, none⟩ = some (.string ⟨#[45, 51]⟩) ∧ W.cell? ⟨w15.heap.size, 1, none⟩ = some (.string ⟨#[50]⟩) ∧ W.cell? ⟨w14.heap.size, 0, none⟩ = some (.string ⟨#[49, 55]⟩) ∧ W.cell? ⟨w14.heap.size, 1, none⟩ = some (.string ⟨#[53, 48]⟩) ∧ W.cell? ⟨w12.heap.size, 0, none⟩ = some (.string ⟨#[45, 49, 55]⟩) ∧ W.cell? ⟨w12.heap.size, 1, none⟩ = some (.string ⟨#[53, 48]⟩) ∧ W.cell? ⟨g11, 0, none⟩ = some (.string ⟨#[]⟩) ∧ W.cell? ⟨g11, 1, none⟩ = some (.string ⟨#[]⟩) ∧ W.cell? ⟨w9.heap.size, 0, none⟩ = some (.string ⟨#[45, 50]⟩) ∧ W.cell? ⟨w9.heap.size, 1, none⟩ = some (.string ⟨#[49]⟩) ∧ W.cell? ⟨w6.heap.size, 0, none⟩ = some (.string ⟨#[53]⟩) ∧ W.cell? ⟨w6.heap.size, 1, none⟩ = some (.string ⟨#[54]⟩) ∧ W.cell? ⟨w3.heap.size, 0, none⟩ = some (.string ⟨#[]⟩) ∧ W.cell? ⟨w3.heap.size, 1, none⟩ = some (.string ⟨#[]⟩) ∧ W.cell? ⟨w2.heap.size, 0, none⟩ = some (.string ⟨#[48]⟩) ∧ W.cell? ⟨w2.heap.size, 1, none⟩ = some (.string ⟨#[49]⟩) ∧ W.cell? ⟨w1.heap.size, 0, none⟩ = some (.string ⟨#[45, 51]⟩) ∧ W.cell? ⟨w1.heap.size, 1, none⟩ = some (.string ⟨#[50]⟩) ∧ True) := fun W h => ⟨Lib.hid h, h.eqs⟩
  have gg : ∀ W, (Hid (Iv w ((w16.heap.size, ⟨#[]⟩, ⟨#[]⟩) :: (w15.heap.size, ⟨#[45, 51]⟩, ⟨#[50]⟩) :: (w14.heap.size, ⟨#[49, 55]⟩, ⟨#[53, 48]⟩) :: (w12.heap.size, ⟨#[45, 49, 55]⟩, ⟨#[53, 48]⟩) :: (g11, ⟨#[]⟩, ⟨#[]⟩) :: (w9.heap.size, ⟨#[45, 50]⟩, ⟨#[49]⟩) :: (w6.heap.size, ⟨#[53]⟩, ⟨#[54]⟩) :: (w3.heap.size, ⟨#[]⟩, ⟨#[]⟩) :: (w2.heap.size, ⟨#[48]⟩, ⟨#[49]⟩) :: (w1.heap.size, ⟨#[45, 51]⟩, ⟨#[50]⟩) :: []) W) ∧ W.cell? ⟨w16.heap.size, 0, none⟩ = some (.string ⟨#[]⟩) ∧ W.cell? ⟨w16.heap.size, 1, none⟩ = some (.string ⟨#[]⟩) ∧ W.cell? ⟨w15.heap.size, 0, none⟩ = some (.string ⟨#[45, 51]⟩) ∧ W.cell? ⟨w15.heap.size, 1, none⟩ = some (.string ⟨#[50]⟩) ∧ W.cell? ⟨w14.heap.size, 0, none⟩ = some (.string ⟨#[49, 55]⟩) ∧ W.cell? ⟨w14.heap.size, 1, none⟩ = some (.string ⟨#[53, 48]⟩) ∧ W.cell? ⟨w12.heap.size, 0, none⟩ = some (.string ⟨#[45, 49, 55]⟩) ∧ W.cell? ⟨w12.heap.size, 1, none⟩ = some (.string ⟨#[53, 48]⟩) ∧ W.cell? ⟨g11, 0, none⟩ = some (.string ⟨#[]⟩) ∧ W.cell? ⟨g11, 1, none⟩ = some (.string ⟨#[]⟩) ∧ W.cell? ⟨w9.heap.size, 0, none⟩ = some (.string ⟨#[45, 50]⟩) ∧ W.cell? ⟨w9.heap.size, 1, none⟩ = some (.string ⟨#[49]⟩) ∧ W.cell? ⟨w6.heap.size, 0, none⟩ = some (.string ⟨#[53]⟩) ∧ W.cell? ⟨w6.heap.size, 1, none⟩ = some (.string ⟨#[54]⟩) ∧ W.cell? ⟨w3.heap.size, 0, none⟩ = some (.string ⟨#[]⟩) ∧ W.cell? ⟨w3.heap.size, 1, none⟩ = some (.string ⟨#[]⟩) ∧ W.cell? ⟨w2.heap.size, 0, none⟩ = some (.string ⟨#[48]⟩) ∧ W.cell? ⟨w2.heap.size, 1, none⟩ = some (.string ⟨#[49]⟩) ∧ W.cell? ⟨w1.heap.size, 0, none⟩ = some (.string ⟨#[45, 51]⟩) ∧ W.cell? ⟨w1.heap.size, 1, none⟩ = some (.string ⟨#[50]⟩) ∧ True) → Iv w ((w16.heap.size, ⟨#[]⟩, ⟨#[]⟩) :: (w15.heap.size, ⟨#[45, 51]⟩, ⟨#[50]⟩) :: (w14.heap.size, ⟨#[49, 55]⟩, ⟨#[53, 48]⟩) :: (w12.heap.size, ⟨#[45, 49, 55]⟩, ⟨#[53, 48]⟩) :: (g11, ⟨#[]⟩, ⟨#[]⟩) :: (w9.heap.size, ⟨#[45, 50]⟩, ⟨#[49]⟩) :: (w6.heap.size, ⟨#[53]⟩, ⟨#[54]⟩) :: (w3.heap.size, ⟨#[]⟩, ⟨#[]⟩) :: (w2.heap.size, ⟨#[48]⟩, ⟨#[49]⟩) :: (w1.heap.size, ⟨#[45, 51]⟩, ⟨#[50]⟩) :: []) W := fun W h => h.1.out
  have KK := Lib.hid kk; have GG := Lib.hid gg; have HA := Lib.hid V16
  clear kk gg V16 C1 C2 C3 C4 C5 C6 C7 C8 C9 C10 fr11
  go_region_held3 (fun W => Hid (Iv w ((w16.heap.size, ⟨#[]⟩, ⟨#[]⟩) :: (w15.heap.size, ⟨#[45, 51]⟩, ⟨#[50]⟩) :: (w14.heap.size, ⟨#[49, 55]⟩, ⟨#[53, 48]⟩) :: (w12.heap.size, ⟨#[45, 49, 55]⟩, ⟨#[53, 48]⟩) :: (g11, ⟨#[]⟩, ⟨#[]⟩) :: (w9.heap.size, ⟨#[45, 50]⟩, ⟨#[49]⟩) :: (w6.heap.size, ⟨#[53]⟩, ⟨#[54]⟩) :: (w3.heap.size, ⟨#[]⟩, ⟨#[]⟩) :: (w2.heap.size, ⟨#[48]⟩, ⟨#[49]⟩) :: (w1.heap.size, ⟨#[45, 51]⟩, ⟨#[50]⟩) :: []) W) ∧ W.cell? ⟨w16.heap.size, 0, none⟩ = some (.string ⟨#[]⟩) ∧ W.cell? ⟨w16.heap.size, 1, none⟩ = some (.string ⟨#[]⟩) ∧ W.cell? ⟨w15.heap.size, 0, none⟩ = some (.string ⟨#[45, 51]⟩) ∧ W.cell? ⟨w15.heap.size, 1, none⟩ = some (.string ⟨#[50]⟩) ∧ W.cell? ⟨w14.heap.size, 0, none⟩ = some (.string ⟨#[49, 55]⟩) ∧ W.cell? ⟨w14.heap.size, 1, none⟩ = some (.string ⟨#[53, 48]⟩) ∧ W.cell? ⟨w12.heap.size, 0, none⟩ = some (.string ⟨#[45, 49, 55]⟩) ∧ W.cell? ⟨w12.heap.size, 1, none⟩ = some (.string ⟨#[53, 48]⟩) ∧ W.cell? ⟨g11, 0, none⟩ = some (.string ⟨#[]⟩) ∧ W.cell? ⟨g11, 1, none⟩ = some (.string ⟨#[]⟩) ∧ W.cell? ⟨w9.heap.size, 0, none⟩ = some (.string ⟨#[45, 50]⟩) ∧ W.cell? ⟨w9.heap.size, 1, none⟩ = some (.string ⟨#[49]⟩) ∧ W.cell? ⟨w6.heap.size, 0, none⟩ = some (.string ⟨#[53]⟩) ∧ W.cell? ⟨w6.heap.size, 1, none⟩ = some (.string ⟨#[54]⟩) ∧ W.cell? ⟨w3.heap.size, 0, none⟩ = some (.string ⟨#[]⟩) ∧ W.cell? ⟨w3.heap.size, 1, none⟩ = some (.string ⟨#[]⟩) ∧ W.cell? ⟨w2.heap.size, 0, none⟩ = some (.string ⟨#[48]⟩) ∧ W.cell? ⟨w2.heap.size, 1, none⟩ = some (.string ⟨#[49]⟩) ∧ W.cell? ⟨w1.heap.size, 0, none⟩ = some (.string ⟨#[45, 51]⟩) ∧ W.cell? ⟨w1.heap.size, 1, none⟩ = some (.string ⟨#[50]⟩) ∧ True)
    (first | assumption | exact KK.out _ HA.out.drew | exact KK.out _ (Iv.step (GG.out _ (by assumption)) (by assumption)))
    (first
      | (go_at_call 41; ((with_reducible refine (CI.out _ _ _).mono ?_); rintro e y6 ⟨rfl, z6⟩))
      | (go_at_call 33; ((with_reducible refine (C11.out _ (T0.out.below (Iv.b (GG.out _ (by assumption))))).mono ?_); rintro e y7 ⟨rfl, z7⟩))
      | (go_at_call 20; ((with_reducible refine (C12.out _ (T0.out.below (Iv.b (GG.out _ (by assumption))))).mono ?_); rintro e y8 ⟨rfl, z8⟩))
      | (go_at_call 29; ((with_reducible refine (C13.out _ (T0.out.below (Iv.b (GG.out _ (by assumption))))).mono ?_); rintro e y9 ⟨rfl, z9⟩))
      | (go_at_call 29; ((with_reducible refine (C14.out _ (T0.out.below (Iv.b (GG.out _ (by assumption))))).mono ?_); rintro e y10 ⟨rfl, z10⟩)))
  all_goals go_wp2
  all_goals go_ret
  all_goals exact ⟨rfl, (GG.out _ (by assumption)).b⟩
end Go.Proofs.YtgpncnnlhhmjaaaGreatDoor
