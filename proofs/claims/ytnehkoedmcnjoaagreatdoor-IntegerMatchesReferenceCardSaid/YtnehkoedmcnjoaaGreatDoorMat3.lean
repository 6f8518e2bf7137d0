/- The walk of IntegerMatchesReference. -/
import Derived.Test.YtnehkoedmcnjoaaGreatDoorRall
import Derived.Test.YtnehkoedmcnjoaaGreatDoorUse
namespace Go.Proofs.YtnehkoedmcnjoaaGreatDoor
open Go.RowKit

theorem dec_short {z : Int} (h : z.natAbs < 10 ^ 200) : (dec z).size ≤ 1000 := by
  by_cases h0 : z = 0
  · subst h0; rw [← l0]; decide
  · have h1 : (magN z.natAbs).size ≤ 200 := by rw [magN_size _ (by omega)]; exact dg_len_lt h
    by_cases hz : z < 0
    · rw [dec_neg' hz]
      show (Lib.decDigits z.natAbs).length + 1 ≤ 1000
      have : (Lib.decDigits z.natAbs).length ≤ 200 := h1
      omega
    · rw [dec_pos' hz]; omega
theorem made_short (s : ByteArray) (k : Nat) (h : k ≤ 200) : (dec (madeZ s k)).size ≤ 1000 := dec_short (Nat.lt_of_lt_of_le (madeZ_lt s k) (Nat.pow_le_pow_right (by decide) h))
theorem pow20 : 10 ^ 20 ≤ 10 ^ 200 := Nat.pow_le_pow_right (by decide) (by decide)
theorem int_short {n : Int} (h0 : -9223372036854775808 ≤ n) (h1 : n ≤ 9223372036854775807) : (dec n).size ≤ 1000 := dec_short (Nat.lt_of_lt_of_le (show n.natAbs < 10 ^ 20 by omega) pow20)

set_option maxRecDepth 100000 in
set_option maxHeartbeats 8000000 in
theorem mat_walk (a b : ByteArray) (n : Int) (h0 : -9223372036854775808 ≤ n) (h1 : n ≤ 9223372036854775807) (w : World) (ht : Tab w) (he : Err w) :
    Calls Tryz.prog 3 #[.string a, .string b, .int .i64 n] w fun e w' => e = .returned (.bool true) ∧ Below w.heap.size w w' := by
  obtain ⟨M, hM⟩ : ∃ M, M = min a.size 210 := ⟨_, rfl⟩
  obtain ⟨K, hK⟩ : ∃ K, K = min b.size 210 := ⟨_, rfl⟩
  have eM : ∀ (ts : Array TypeId) (t : TypeId) (W : World), (Builtin.min_ ts t #[.int .i64 (a.size : Int), .int .i64 210]).run Tryz.prog W = .ok (.int .i64 (M : Int)) W := by
    intro ts t W
    rw [run_min_int2, show (if (210 : Int) < (a.size : Int) then (210 : Int) else (a.size : Int)) = (M : Int) by split <;> omega]
  have eK : ∀ (ts : Array TypeId) (t : TypeId) (W : World), (Builtin.min_ ts t #[.int .i64 (b.size : Int), .int .i64 210]).run Tryz.prog W = .ok (.int .i64 (K : Int)) W := by
    intro ts t W
    rw [run_min_int2, show (if (210 : Int) < (b.size : Int) then (210 : Int) else (b.size : Int)) = (K : Int) by split <;> omega]
  obtain ⟨A, hA⟩ : ∃ A, a.extract 0 M = A := ⟨_, rfl⟩
  obtain ⟨B, hB⟩ : ∃ B, b.extract 0 K = B := ⟨_, rfl⟩
  have m1 : (M : Int) ≤ (a.size : Int) := by omega
  have m2 : (0 : Int) ≤ (M : Int) := by omega
  have k1 : (K : Int) ≤ (b.size : Int) := by omega
  have k2 : (0 : Int) ≤ (K : Int) := by omega
  have sA : A.size ≤ 1000 := by rw [← hA, ByteArray.size_extract]; omega
  have sB : B.size ≤ 1000 := by rw [← hB, ByteArray.size_extract]; omega
  obtain ⟨S1, hS1⟩ : ∃ S, S = dec (madeZ A 70) := ⟨_, rfl⟩
  have c1 : ∀ W, Calls Tryz.prog 5 #[.string A, .int .i64 70] W fun e w' => e = .returned (.string S1) ∧ Below W.heap.size W w' := by rw [hS1]; exact fun W => made_any A 70 (by decide) W
  obtain ⟨S2, hS2⟩ : ∃ S, S = dec (madeZ B 30) := ⟨_, rfl⟩
  have c2 : ∀ W, Calls Tryz.prog 5 #[.string B, .int .i64 30] W fun e w' => e = .returned (.string S2) ∧ Below W.heap.size W w' := by rw [hS2]; exact fun W => made_any B 30 (by decide) W
  obtain ⟨S3, hS3⟩ : ∃ S, S = dec (madeZ A 12) := ⟨_, rfl⟩
  have c3 : ∀ W, Calls Tryz.prog 5 #[.string A, .int .i64 12] W fun e w' => e = .returned (.string S3) ∧ Below W.heap.size W w' := by rw [hS3]; exact fun W => made_any A 12 (by decide) W
  obtain ⟨S4, hS4⟩ : ∃ S, S = dec n := ⟨_, rfl⟩
  have c4 := fun (W : World) => rfrom_any n h0 h1 W
  have c5 := fun (W : World) (h : Tab W) => FromInt_any n h0 h1 W h
  rw [← hS4] at c4 c5
  have s1 : S1.size ≤ 1000 := by rw [hS1]; exact made_short A 70 (by decide)
  have s2 : S2.size ≤ 1000 := by rw [hS2]; exact made_short B 30 (by decide)
  have s3 : S3.size ≤ 1000 := by rw [hS3]; exact made_short A 12 (by decide)
  have s4 : S4.size ≤ 1000 := by rw [hS4]; exact int_short h0 h1
  have hps : ∀ i, i < 3 → ∃ X Y, (#[.string A, .string B, .string S1, .string S2, .string S3, .string S4] : Array Value)[i * 2]? = some (.string X) ∧ (#[.string A, .string B, .string S1, .string S2, .string S3, .string S4] : Array Value)[i * 2 + 1]? = some (.string Y) ∧ X.size ≤ 1000 ∧ Y.size ≤ 1000 := by
    intro i hi
    have : i = 0 ∨ i = 1 ∨ i = 2 := by omega
    rcases this with e | e | e <;> subst e
    · exact ⟨A, B, rfl, rfl, sA, sB⟩
    · exact ⟨S1, S2, rfl, rfl, s1, s2⟩
    · exact ⟨S3, S4, rfl, rfl, s3, s4⟩
  have HPS := Lib.hid hps
  have T := Lib.hid ht; have E := Lib.hid he
  have C1 := Lib.hid c1; have C2 := Lib.hid c2; have C3 := Lib.hid c3; have C4 := Lib.hid c4; have C5 := Lib.hid c5
  clear c1 c2 c3 c4 c5 ht he hM hK hS1 hS2 hS3 hS4 s1 s2 s3 s4 sA sB hps h0 h1
  go_enter Tryz.func3, Tryz.ntmps3
  go_wp2_with (first
    | (go_at_call 4; (with_reducible refine (sane_any _ T.out).mono ?_); rintro e w1 ⟨rfl, b1⟩)
    | (go_at_call 5; (with_reducible refine (C1.out _).mono ?_); rintro e w2 ⟨rfl, b2⟩; have d2 := below_step b1 b2)
    | (go_at_call 5; (with_reducible refine (C2.out _).mono ?_); rintro e w3 ⟨rfl, b3⟩; have d3 := below_step d2 b3)
    | (go_at_call 5; (with_reducible refine (C3.out _).mono ?_); rintro e w4 ⟨rfl, b4⟩; have d4 := below_step d3 b4)
    | (go_at_call 6; (with_reducible refine (C4.out _).mono ?_); rintro e w5 ⟨rfl, b5⟩; have d5 := below_step d4 b5)
    | fail)
  have HD5 := Lib.hid d5
  obtain ⟨W5, hW5⟩ : ∃ W, W = w5.alloc (.cells #[.string A, .string B, .string S1, .string S2, .string S3, .string S4] 23) := ⟨_, rfl⟩
  have d6 : Below w.heap.size w W5 := by rw [hW5]; exact keep_alloc d5 _
  have hrow : Row W5 w5.heap.size 23 #[.string A, .string B, .string S1, .string S2, .string S3, .string S4] := by rw [hW5]; exact Row.made w5 _ _
  rw [← hW5]
  obtain ⟨G, hG⟩ : ∃ G, G = w5.heap.size := ⟨_, rfl⟩
  rw [← hG] at hrow ⊢
  have HR := Lib.hid hrow; have HD6 := Lib.hid d6
  clear hrow d6 d5 d4 d3 d2 b5 b4 b3 b2 b1 hW5 hG HD5
  go_loopw [50] (fun p wr => ∃ i : Nat, p = .int .i64 i ∧ i ≤ 3 ∧ Hid (Below W5.heap.size W5 wr)) (fun p _ => 3 - (intOf p).toNat)
  case atStart => exact ⟨0, rfl, by omega, Lib.hid (Below.refl _ _)⟩
  case round =>
    obtain ⟨i, rfl, hi, HB⟩ := hrel
    by_cases h3 : i < 3
    · have i1 : (i : Int) < 3 := by omega
      have i0 : (0 : Int) ≤ (i : Int) := by omega
      obtain ⟨X, Y, hX, hY, sX, sY⟩ := HPS.out i h3
      have hrw := Row.below HR.out HB.out (Row.inside HR.out)
      have k1 : wr.cell? ⟨G, i * 2, none⟩ = some (.string X) := Row.at hrw hX
      have k2 : wr.cell? ⟨G, i * 2 + 1, none⟩ = some (.string Y) := Row.at hrw hY
      clear hX hY hrw
      obtain ⟨TA, hTA⟩ : ∃ vv, vv = opT (fun x y => x + y) X Y := ⟨_, rfl⟩
      obtain ⟨EA, hEA⟩ : ∃ vv, vv = opE (fun x y => x + y) X Y := ⟨_, rfl⟩
      have cAdd : ∀ W, Tab W ∧ Err W → Calls Tryz.prog 7 #[.string X, .string Y] W fun e w' => e = .returned (.tuple #[.string TA, .int .i64 EA]) ∧ Below W.heap.size W w' := fun W h => by rw [hTA, hEA]; exact add_any X Y W h.1
      have rAdd : ∀ W, Calls Tryz.prog 8 #[.string X, .string Y] W fun e w' => e = .returned (.tuple #[.string TA, .int .i64 EA]) ∧ Below W.heap.size W w' := fun W => by rw [hTA, hEA]; exact radd_any X Y sX sY W
      obtain ⟨TS, hTS⟩ : ∃ vv, vv = opT (fun x y => x - y) X Y := ⟨_, rfl⟩
      obtain ⟨ES, hES⟩ : ∃ vv, vv = opE (fun x y => x - y) X Y := ⟨_, rfl⟩
      have cSub : ∀ W, Tab W ∧ Err W → Calls Tryz.prog 9 #[.string X, .string Y] W fun e w' => e = .returned (.tuple #[.string TS, .int .i64 ES]) ∧ Below W.heap.size W w' := fun W h => by rw [hTS, hES]; exact sub_any X Y W h.1
      have rSub : ∀ W, Calls Tryz.prog 10 #[.string X, .string Y] W fun e w' => e = .returned (.tuple #[.string TS, .int .i64 ES]) ∧ Below W.heap.size W w' := fun W => by rw [hTS, hES]; exact rsub_any X Y sX sY W
      obtain ⟨TM, hTM⟩ : ∃ vv, vv = opT (fun x y => x * y) X Y := ⟨_, rfl⟩
      obtain ⟨EM, hEM⟩ : ∃ vv, vv = opE (fun x y => x * y) X Y := ⟨_, rfl⟩
      have cMul : ∀ W, Tab W ∧ Err W → Calls Tryz.prog 11 #[.string X, .string Y] W fun e w' => e = .returned (.tuple #[.string TM, .int .i64 EM]) ∧ Below W.heap.size W w' := fun W h => by rw [hTM, hEM]; exact mul_any X Y W h.1
      have rMul : ∀ W, Calls Tryz.prog 12 #[.string X, .string Y] W fun e w' => e = .returned (.tuple #[.string TM, .int .i64 EM]) ∧ Below W.heap.size W w' := fun W => by rw [hTM, hEM]; exact rmul_any X Y sX sY W
      obtain ⟨TQ, hTQ⟩ : ∃ vv, vv = divQ X Y := ⟨_, rfl⟩
      obtain ⟨TR, hTR⟩ : ∃ vv, vv = divR X Y := ⟨_, rfl⟩
      obtain ⟨ED, hED⟩ : ∃ vv, vv = divE X Y := ⟨_, rfl⟩
      have cDiv : ∀ W, Tab W ∧ Err W → Calls Tryz.prog 13 #[.string X, .string Y] W fun e w' => e = .returned (.tuple #[.string TQ, .string TR, .int .i64 ED]) ∧ Below W.heap.size W w' := fun W h => by rw [hTQ, hTR, hED]; exact Div_any X Y W h.1
      have rDiv : ∀ W, Calls Tryz.prog 14 #[.string X, .string Y] W fun e w' => e = .returned (.tuple #[.string TQ, .string TR, .int .i64 ED]) ∧ Below W.heap.size W w' := fun W => by rw [hTQ, hTR, hED]; exact rquo_any X Y sX sY W
      obtain ⟨TG, hTG⟩ : ∃ vv, vv = opT (fun x y => (Int.gcd x y : Int)) X Y := ⟨_, rfl⟩
      obtain ⟨EG, hEG⟩ : ∃ vv, vv = opE (fun x y => (Int.gcd x y : Int)) X Y := ⟨_, rfl⟩
      have cGcd : ∀ W, Tab W ∧ Err W → Calls Tryz.prog 15 #[.string X, .string Y] W fun e w' => e = .returned (.tuple #[.string TG, .int .i64 EG]) ∧ Below W.heap.size W w' := fun W h => by rw [hTG, hEG]; exact gcd_any X Y W h.1
      have rGcd : ∀ W, Calls Tryz.prog 16 #[.string X, .string Y] W fun e w' => e = .returned (.tuple #[.string TG, .int .i64 EG]) ∧ Below W.heap.size W w' := fun W => by rw [hTG, hEG]; exact rgcd_any X Y sX sY W
      obtain ⟨TT, hTT⟩ : ∃ vv, vv = rootT X := ⟨_, rfl⟩
      obtain ⟨ET, hET⟩ : ∃ vv, vv = rootE X := ⟨_, rfl⟩
      have cRoot : ∀ W, Tab W ∧ Err W → Calls Tryz.prog 17 #[.string X] W fun e w' => e = .returned (.tuple #[.string TT, .int .i64 ET]) ∧ Below W.heap.size W w' := fun W h => by rw [hTT, hET]; exact Root_any X W h.1
      have rRoot : ∀ W, Calls Tryz.prog 18 #[.string X] W fun e w' => e = .returned (.tuple #[.string TT, .int .i64 ET]) ∧ Below W.heap.size W w' := fun W => by rw [hTT, hET]; exact rroot_any X sX W
      obtain ⟨NI, hNI⟩ : ∃ vv, vv = intN X := ⟨_, rfl⟩
      obtain ⟨EI, hEI⟩ : ∃ vv, vv = intE X := ⟨_, rfl⟩
      have cToInt : ∀ W, Tab W ∧ Err W → Calls Tryz.prog 19 #[.string X] W fun e w' => e = .returned (.tuple #[.int .i64 NI, .int .i64 EI]) ∧ Below W.heap.size W w' := fun W h => by rw [hNI, hEI]; exact ToInt_any X W h.2
      have rToInt : ∀ W, Calls Tryz.prog 20 #[.string X] W fun e w' => e = .returned (.tuple #[.int .i64 NI, .int .i64 EI]) ∧ Below W.heap.size W w' := fun W => by rw [hNI, hEI]; exact rint_any X sX W
      obtain ⟨VV, hVV⟩ : ∃ vv, vv = validB X.data.toList := ⟨_, rfl⟩
      have cValid : ∀ W, Tab W ∧ Err W → Calls Tryz.prog 21 #[.string X] W fun e w' => e = .returned (.bool VV) ∧ Below W.heap.size W w' := fun W h => by rw [hVV]; exact valid_any X W
      have rValid : ∀ W, Calls Tryz.prog 22 #[.string X] W fun e w' => e = .returned (.bool VV) ∧ Below W.heap.size W w' := fun W => by rw [hVV]; exact rvalid_any X sX W
      obtain ⟨CC, hCC⟩ : ∃ vv, vv = cmpS X Y := ⟨_, rfl⟩
      have cCompare : ∀ W, Tab W ∧ Err W → Calls Tryz.prog 23 #[.string X, .string Y] W fun e w' => e = .returned (.int .i64 CC) ∧ Below W.heap.size W w' := fun W h => by rw [hCC]; exact Compare_any X Y W
      have rCompare : ∀ W, Calls Tryz.prog 24 #[.string X, .string Y] W fun e w' => e = .returned (.int .i64 CC) ∧ Below W.heap.size W w' := fun W => by rw [hCC]; exact rcmp_any X Y sX sY W
      iterate 33 go_step
      obtain ⟨W6, hW6⟩ : ∃ W, W = wr.alloc (.cells #[.string X, .string Y] 23) := ⟨_, rfl⟩
      have hrow6 : Row W6 wr.heap.size 23 #[.string X, .string Y] := by rw [hW6]; exact Row.made wr _ _
      have e6 : Below W5.heap.size W5 W6 := by rw [hW6]; exact keep_alloc HB.out _
      have f6 : Below w.heap.size w W6 := below_step HD6.out e6
      have hT6 : ∀ W, Below W6.heap.size W6 W → Tab W ∧ Err W := fun W h => ⟨T.out.below (below_step f6 h), E.out.below (below_step f6 h)⟩
      rw [← hW6]
      obtain ⟨g, hg⟩ : ∃ g, g = wr.heap.size := ⟨_, rfl⟩
      rw [← hg] at hrow6 ⊢
      have hC6 : ∀ W, Below W6.heap.size W6 W → W.cell? ⟨g, 0, none⟩ = some (.string X) ∧ W.cell? ⟨g, 1, none⟩ = some (.string Y) := fun W h => ⟨Row.at (Row.below hrow6 h (Row.inside hrow6)) rfl, Row.at (Row.below hrow6 h (Row.inside hrow6)) rfl⟩
      obtain ⟨p0, q0⟩ := hC6 _ (Below.refl _ _)
      have HT := Lib.hid hT6; have HC := Lib.hid hC6; have HE6 := Lib.hid e6
      have Add9 := Lib.hid cAdd; have Add8 := Lib.hid rAdd; have Sub9 := Lib.hid cSub; have Sub8 := Lib.hid rSub; have Mul9 := Lib.hid cMul; have Mul8 := Lib.hid rMul; have Div9 := Lib.hid cDiv; have Div8 := Lib.hid rDiv; have Gcd9 := Lib.hid cGcd; have Gcd8 := Lib.hid rGcd; have Root9 := Lib.hid cRoot; have Root8 := Lib.hid rRoot; have ToInt9 := Lib.hid cToInt; have ToInt8 := Lib.hid rToInt; have Valid9 := Lib.hid cValid; have Valid8 := Lib.hid rValid; have Compare9 := Lib.hid cCompare; have Compare8 := Lib.hid rCompare
      clear hW6 hg hrow6 e6 f6 hT6 hC6 k1 k2 sX sY cAdd rAdd hTA hEA cSub rSub hTS hES cMul rMul hTM hEM cDiv rDiv hTQ hTR hED cGcd rGcd hTG hEG cRoot rRoot hTT hET cToInt rToInt hNI hEI cValid rValid hVV cCompare rCompare hCC
      go_wp2_with (first
        | (go_at_call 7; (with_reducible refine (Add9.out _ (HT.out _ (Below.refl _ _))).mono ?_); rintro e v1 ⟨rfl, b1⟩; have d1 := b1; obtain ⟨p1, q1⟩ := HC.out _ d1)
        | (go_at_call 8; (with_reducible refine (Add8.out _).mono ?_); rintro e v2 ⟨rfl, b2⟩; have d2 := below_step d1 b2; obtain ⟨p2, q2⟩ := HC.out _ d2)
        | (go_at_call 9; (with_reducible refine (Sub9.out _ (HT.out _ d2)).mono ?_); rintro e v3 ⟨rfl, b3⟩; have d3 := below_step d2 b3; obtain ⟨p3, q3⟩ := HC.out _ d3)
        | (go_at_call 10; (with_reducible refine (Sub8.out _).mono ?_); rintro e v4 ⟨rfl, b4⟩; have d4 := below_step d3 b4; obtain ⟨p4, q4⟩ := HC.out _ d4)
        | (go_at_call 11; (with_reducible refine (Mul9.out _ (HT.out _ d4)).mono ?_); rintro e v5 ⟨rfl, b5⟩; have d5 := below_step d4 b5; obtain ⟨p5, q5⟩ := HC.out _ d5)
        | (go_at_call 12; (with_reducible refine (Mul8.out _).mono ?_); rintro e v6 ⟨rfl, b6⟩; have d6 := below_step d5 b6; obtain ⟨p6, q6⟩ := HC.out _ d6)
        | (go_at_call 13; (with_reducible refine (Div9.out _ (HT.out _ d6)).mono ?_); rintro e v7 ⟨rfl, b7⟩; have d7 := below_step d6 b7; obtain ⟨p7, q7⟩ := HC.out _ d7)
        | (go_at_call 14; (with_reducible refine (Div8.out _).mono ?_); rintro e v8 ⟨rfl, b8⟩; have d8 := below_step d7 b8; obtain ⟨p8, q8⟩ := HC.out _ d8)
        | (go_at_call 15; (with_reducible refine (Gcd9.out _ (HT.out _ d8)).mono ?_); rintro e v9 ⟨rfl, b9⟩; have d9 := below_step d8 b9; obtain ⟨p9, q9⟩ := HC.out _ d9)
        | (go_at_call 16; (with_reducible refine (Gcd8.out _).mono ?_); rintro e v10 ⟨rfl, b10⟩; have d10 := below_step d9 b10; obtain ⟨p10, q10⟩ := HC.out _ d10)
        | (go_at_call 17; (with_reducible refine (Root9.out _ (HT.out _ d10)).mono ?_); rintro e v11 ⟨rfl, b11⟩; have d11 := below_step d10 b11; obtain ⟨p11, q11⟩ := HC.out _ d11)
        | (go_at_call 18; (with_reducible refine (Root8.out _).mono ?_); rintro e v12 ⟨rfl, b12⟩; have d12 := below_step d11 b12; obtain ⟨p12, q12⟩ := HC.out _ d12)
        | (go_at_call 19; (with_reducible refine (ToInt9.out _ (HT.out _ d12)).mono ?_); rintro e v13 ⟨rfl, b13⟩; have d13 := below_step d12 b13; obtain ⟨p13, q13⟩ := HC.out _ d13)
        | (go_at_call 20; (with_reducible refine (ToInt8.out _).mono ?_); rintro e v14 ⟨rfl, b14⟩; have d14 := below_step d13 b14; obtain ⟨p14, q14⟩ := HC.out _ d14)
        | fail)
      have hS : ∀ W, Below v14.heap.size v14 W → Below W6.heap.size W6 W ∧ W.cell? ⟨g, 0, none⟩ = some (.string X) ∧ W.cell? ⟨g, 1, none⟩ = some (.string Y) := fun W h => ⟨below_step d14 h, HC.out _ (below_step d14 h)⟩
      have hS6 : ∀ W, Below W6.heap.size W6 W → Below W6.heap.size W6 W ∧ W.cell? ⟨g, 0, none⟩ = some (.string X) ∧ W.cell? ⟨g, 1, none⟩ = some (.string Y) := fun W h => ⟨h, HC.out _ h⟩
      have HS6 := Lib.hid hS6
      have HD14 := Lib.hid d14
      clear hS hS6 b1 d1 p1 q1 b2 d2 p2 q2 b3 d3 p3 q3 b4 d4 p4 q4 b5 d5 p5 q5 b6 d6 p6 q6 b7 d7 p7 q7 b8 d8 p8 q8 b9 d9 p9 q9 b10 d10 p10 q10 b11 d11 p11 q11 b12 d12 p12 q12 b13 d13 p13 q13 b14 d14 p14 q14 p0 q0
      go_region_held3 (fun W => Below W6.heap.size W6 W ∧ W.cell? ⟨g, 0, none⟩ = some (.string X) ∧ W.cell? ⟨g, 1, none⟩ = some (.string Y))
        (first | assumption | exact HS6.out _ HD14.out.drew | exact HS6.out _ HD14.out | exact HS6.out _ (below_step (And.left (by assumption)) (by assumption)) | exact HS6.out _ (And.left (by assumption)).drew)
        (first
            | (go_at_call 21; ((with_reducible refine (Valid9.out _ (HT.out _ (And.left (by assumption)))).mono ?_); rintro e v1 ⟨rfl, bb⟩))
            | (go_at_call 22; ((with_reducible refine (Valid8.out _).mono ?_); rintro e v1 ⟨rfl, bb⟩))
            | (go_at_call 23; ((with_reducible refine (Compare9.out _ (HT.out _ (And.left (by assumption)))).mono ?_); rintro e v1 ⟨rfl, bb⟩))
            | (go_at_call 24; ((with_reducible refine (Compare8.out _).mono ?_); rintro e v1 ⟨rfl, bb⟩)))
      go_wp2
      go_roundw
      case rel => exact ⟨i + 1, by go_num, by omega, Lib.hid (below_step HE6.out (And.left (by assumption)))⟩
      case measure => simp [intOf]; omega
    · have i1 : ¬ (i : Int) < 3 := by omega
      have f6 : Below w.heap.size w wr := below_step HD6.out HB.out
      have F6 := Lib.hid f6
      clear f6
      go_wp2_with (first
        | (go_at_call 25; (with_reducible refine (C5.out _ (T.out.below F6.out)).mono ?_); rintro e v1 ⟨rfl, b1⟩; have d1 := below_step F6.out b1)
        | (go_at_call 6; (with_reducible refine (C4.out _).mono ?_); rintro e v2 ⟨rfl, b2⟩; have d2 := below_step d1 b2)
        | fail)
      go_ret
      exact ⟨rfl, d2⟩
end Go.Proofs.YtnehkoedmcnjoaaGreatDoor
