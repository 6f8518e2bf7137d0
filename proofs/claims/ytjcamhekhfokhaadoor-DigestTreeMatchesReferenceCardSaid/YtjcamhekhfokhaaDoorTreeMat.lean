/- DigestTreeMatchesReference. -/
import Derived.Test.YtjcamhekhfokhaaDoorRefP
import Derived.Test.YtjcamhekhfokhaaDoorExtAcc
import Derived.Test.YtjcamhekhfokhaaDoorHead
namespace Go.Proofs.YtjcamhekhfokhaaDoor
open Go.RowKit

set_option maxRecDepth 100000 in
set_option maxHeartbeats 2000000 in
theorem treemat_walk (A : Option Addr) (c L : Nat) (xs : List ByteArray) (i m : Int) (ilo : -9223372036854775808 ≤ i) (ihi : i ≤ 9223372036854775807) (mlo : -9223372036854775808 ≤ m) (mhi : m ≤ 9223372036854775807) (w : World) (hL : L = xs.length) (hLm : L ≤ 9223372036854775807) (hS : Strs w w.heap.size A xs) (hz : ∀ s ∈ xs, s.size ≤ 9223372036854775807) (ht : Tab w) :
    Calls Tryd.prog 4 #[.slice A L c, .int .i64 i, .int .i64 m] w fun e w' => e = .returned (.bool true) ∧ Below w.heap.size w w' := by
  have HT := Lib.hid ht; have HS := Lib.hid hS; have HZ := Lib.hid hz; have HL := Lib.hid hL
  clear ht hS hz hL
  go_enter Tryd.func4, Tryd.ntmps4
  go_wp2_with fail
  refine (sane_any _ HT.out).mono ?_
  rintro e w1 ⟨rfl, b1⟩
  go_wp2_with fail
  refine (few_any A c L 40 xs _ HL.out hLm (by decide) ((HS.out.below b1).more b1.size) HZ.out).mono ?_
  rintro e w2 ⟨v2, rfl, o2, b2⟩
  have hll : (fewL 40 xs).length ≤ 40 := by rw [few_len]; omega
  have hlz : ∀ x ∈ fewL 40 xs, x.size ≤ 60 := few_size
  obtain ⟨l, hl⟩ : ∃ l, fewL 40 xs = l := ⟨_, rfl⟩
  rw [hl] at o2 hll hlz
  obtain ⟨n, hn⟩ : ∃ n, n = l.length := ⟨_, rfl⟩
  obtain ⟨A2, c2, rfl, s2, n2, m2⟩ := own_strs_n l hn o2
  have T2 := Lib.hid ((HT.out.below b1).below b2)
  have S2 := Lib.hid s2
  have q2 := below_step b1 b2
  have HN := Lib.hid hn
  have kn : n ≤ 40 := by omega
  have hz2 : ∀ x ∈ l, x.size ≤ 1000 := fun x hx => Nat.le_trans (hlz x hx) (by decide)
  have kP : (proofE l i).1.length ≤ 1000 := by
    rw [proofE]; split
    · exact Nat.le_trans (proof_small _ _ (by omega)) (by decide)
    · simp
  have kX : (extE l m).1.length ≤ 1000 := by
    rw [extE]; split
    · simp
    · split
      · simp
      · exact Nat.le_trans (part_small _ _ _ (by omega) (by omega) (by omega)) (by decide)
  have cP := fun W ht hs => proofE_any A2 c2 n l i W HN.out (by omega) n2 m2 ht hs hz2
  have dP := fun W ht hs => refproof_any A2 c2 n l i W HN.out (by omega) n2 m2 ht hs hz2
  have cX := fun W ht hs => extE_any A2 c2 n l m W HN.out (by omega) n2 m2 ht hs hz2
  have dX := fun W ht hs => refextE_any A2 c2 n l m W HN.out (by omega) n2 m2 ht hs hz2
  have cR := fun W ht hs => root_any A2 c2 n l W HN.out n2 m2 ht hs hz2
  have dR := fun W ht hs => refroot_any A2 c2 n l W HN.out n2 m2 ht hs hz2
  obtain ⟨P, hP⟩ : ∃ P, P = proofE l i := ⟨_, rfl⟩
  obtain ⟨X, hX⟩ : ∃ X, X = extE l m := ⟨_, rfl⟩
  obtain ⟨R, hR⟩ : ∃ R, R = root l := ⟨_, rfl⟩
  rw [← hP] at cP dP kP
  rw [← hX] at cX dX kX
  rw [← hR] at cR dR
  obtain ⟨P, e1⟩ := P
  obtain ⟨X, e2⟩ := X
  dsimp only at kP kX
  obtain ⟨kp, hkp⟩ : ∃ k, k = P.length := ⟨_, rfl⟩
  obtain ⟨kx, hkx⟩ : ∃ k, k = X.length := ⟨_, rfl⟩
  rw [← hkp] at kP
  rw [← hkx] at kX
  have HKP := Lib.hid hkp; have HKX := Lib.hid hkx
  have d1 := str_eq (rfl : R = R)
  clear o2 b1 b2 s2 HT HS HZ HL hl hn hlz hll hP hX hR hkp hkx
  go_wp2_with fail
  refine (cP _ T2.out S2.out).mono ?_
  rintro e w3 ⟨v3, rfl, o3, b3⟩
  obtain ⟨A3, c3, rfl, s3, n3, m3⟩ := own_strs_n P HKP.out o3
  have T3 := Lib.hid (T2.out.below b3)
  have S3 := Lib.hid ((S2.out.below b3).more b3.size)
  have P3 := Lib.hid s3
  have q3 := below_step q2 b3
  clear b3 T2 S2 q2 o3 s3 cP
  go_wp2_with fail
  refine (dP _ T3.out S3.out).mono ?_
  rintro e w4 ⟨v4, rfl, o4, b4⟩
  obtain ⟨A4, c4, rfl, s4, n4, m4⟩ := own_strs_n P HKP.out o4
  have T4 := Lib.hid (T3.out.below b4)
  have S4 := Lib.hid ((S3.out.below b4).more b4.size)
  have P4 := Lib.hid ((P3.out.below b4).more b4.size)
  have Q4 := Lib.hid s4
  have q4 := below_step q3 b4
  clear b4 T3 S3 q3 o4 s4 P3 dP
  go_wp2_with fail
  refine (cX _ T4.out S4.out).mono ?_
  rintro e w5 ⟨v5, rfl, o5, b5⟩
  obtain ⟨A5, c5, rfl, s5, n5, m5⟩ := own_strs_n X HKX.out o5
  have T5 := Lib.hid (T4.out.below b5)
  have S5 := Lib.hid ((S4.out.below b5).more b5.size)
  have P5 := Lib.hid ((P4.out.below b5).more b5.size)
  have Q5 := Lib.hid ((Q4.out.below b5).more b5.size)
  have X5 := Lib.hid s5
  have q5 := below_step q4 b5
  clear b5 T4 S4 q4 o5 s5 P4 Q4 cX
  go_wp2_with fail
  refine (dX _ T5.out S5.out).mono ?_
  rintro e w6 ⟨v6, rfl, o6, b6⟩
  obtain ⟨A6, c6, rfl, s6, n6, m6⟩ := own_strs_n X HKX.out o6
  have T6 := Lib.hid (T5.out.below b6)
  have S6 := Lib.hid ((S5.out.below b6).more b6.size)
  have P6 := Lib.hid ((P5.out.below b6).more b6.size)
  have Q6 := Lib.hid ((Q5.out.below b6).more b6.size)
  have X6 := Lib.hid ((X5.out.below b6).more b6.size)
  have Y6 := Lib.hid s6
  have q6 := below_step q5 b6
  clear b6 T5 S5 q5 o6 s6 P5 Q5 X5 dX
  have cS := fun W hS1 hS2 => same_any A3 A4 c3 c4 kp kp P P W HKP.out HKP.out kP kP hS1 hS2
  have dS := fun W hS1 hS2 => same_any A5 A6 c5 c6 kx kx X X W HKX.out HKX.out kX kX hS1 hS2
  rw [decide_eq_true (rfl : P = P)] at cS
  rw [decide_eq_true (rfl : X = X)] at dS
  go_wp2_with fail
  refine (cS _ P6.out Q6.out).mono ?_
  rintro e w7 ⟨rfl, b7⟩
  have T7 := Lib.hid (T6.out.below b7)
  have S7 := Lib.hid ((S6.out.below b7).more b7.size)
  have X7 := Lib.hid ((X6.out.below b7).more b7.size)
  have Y7 := Lib.hid ((Y6.out.below b7).more b7.size)
  have q7 := below_step q6 b7
  clear b7 T6 S6 q6 X6 Y6 P6 Q6 cS
  go_wp2_with fail
  refine (dS _ X7.out Y7.out).mono ?_
  rintro e w8 ⟨rfl, b8⟩
  have T8 := Lib.hid (T7.out.below b8)
  have S8 := Lib.hid ((S7.out.below b8).more b8.size)
  have q8 := below_step q7 b8
  clear b8 T7 S7 q7 X7 Y7 dS
  go_wp2_with fail
  refine (cR _ T8.out S8.out).mono ?_
  rintro e w9 ⟨rfl, b9⟩
  have T9 := Lib.hid (T8.out.below b9)
  have S9 := Lib.hid ((S8.out.below b9).more b9.size)
  have q9 := below_step q8 b9
  clear b9 T8 S8 q8 cR
  go_wp2_with fail
  refine (dR _ T9.out S9.out).mono ?_
  rintro e w10 ⟨rfl, b10⟩
  go_wp2_with fail
  go_ret
  exact ⟨rfl, below_step q9 b10⟩
end Go.Proofs.YtjcamhekhfokhaaDoor
