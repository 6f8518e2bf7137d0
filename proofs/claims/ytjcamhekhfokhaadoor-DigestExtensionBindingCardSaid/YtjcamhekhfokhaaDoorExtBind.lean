/- DigestExtensionBinding. -/
import Derived.Test.YtjcamhekhfokhaaDoorSide
namespace Go.Proofs.YtjcamhekhfokhaaDoor
open Go.RowKit

set_option maxRecDepth 100000 in
set_option maxHeartbeats 2000000 in
theorem extbind_walk (a b rt : ByteArray) (m n : Int) (n1 : -9223372036854775808 ≤ n) (n2 : n ≤ 9223372036854775807) (m1 : -9223372036854775808 ≤ m) (m2 : m ≤ 9223372036854775807)
    (A A' : Option Addr) (c L c' L' : Nat) (xs ys : List ByteArray) (w : World)
    (hL : L = xs.length) (hLm : L ≤ 9223372036854775807) (hS : Strs w w.heap.size A xs) (hz : ∀ s ∈ xs, s.size ≤ 9223372036854775807)
    (hL' : L' = ys.length) (hLm' : L' ≤ 9223372036854775807) (hS' : Strs w w.heap.size A' ys) (hz' : ∀ s ∈ ys, s.size ≤ 9223372036854775807)
    (hsa : a.size ≤ 9223372036854775807) (hsb : b.size ≤ 9223372036854775807) (hsr : rt.size ≤ 9223372036854775807) (ht : Tab w) :
    Calls Tryd.prog 10 #[.string a, .slice A L c, .string b, .slice A' L' c', .int .i64 m, .string rt, .int .i64 n] w fun e w' => e = .returned (.bool true) ∧ Below w.heap.size w w' := by
  have HT := Lib.hid ht; have HS := Lib.hid hS; have HZ := Lib.hid hz; have HL := Lib.hid hL; have HS' := Lib.hid hS'; have HZ' := Lib.hid hz'; have HL' := Lib.hid hL'
  clear ht hS hz hL hS' hz' hL'
  go_enter Tryd.func10, Tryd.ntmps10
  go_wp2_with fail
  refine (sane_any _ HT.out).mono ?_
  rintro e w1 ⟨rfl, b1⟩
  go_wp2_with fail
  refine (few_any A c L 70 xs _ HL.out hLm (by decide) ((HS.out.below b1).more b1.size) HZ.out).mono ?_
  rintro e w2 ⟨v2, rfl, o2, b2⟩
  have hll : (fewL 70 xs).length ≤ 70 := by rw [few_len]; omega
  have hlz : ∀ x ∈ fewL 70 xs, x.size ≤ 60 := few_size
  obtain ⟨p, hp⟩ : ∃ l, fewL 70 xs = l := ⟨_, rfl⟩
  rw [hp] at o2 hll hlz
  obtain ⟨kp, hkp⟩ : ∃ n, n = p.length := ⟨_, rfl⟩
  obtain ⟨A2, c2, rfl, s2, e2, f2⟩ := own_strs_n p hkp o2
  have q2 := below_step b1 b2
  have T2 := Lib.hid ((HT.out.below b1).below b2)
  have P2 := Lib.hid s2
  have HS2 := Lib.hid ((HS'.out.below q2).more q2.size)
  have HP := Lib.hid hkp
  clear o2 b1 b2 s2 HT HS HZ HL HS' hp hkp
  go_wp2_with fail
  refine (few_any A' c' L' 70 ys _ HL'.out hLm' (by decide) HS2.out HZ'.out).mono ?_
  rintro e w3 ⟨v3, rfl, o3, b3⟩
  have hll' : (fewL 70 ys).length ≤ 70 := by rw [few_len]; omega
  have hlz' : ∀ x ∈ fewL 70 ys, x.size ≤ 60 := few_size
  obtain ⟨q, hq⟩ : ∃ l, fewL 70 ys = l := ⟨_, rfl⟩
  rw [hq] at o3 hll' hlz'
  obtain ⟨kq, hkq⟩ : ∃ n, n = q.length := ⟨_, rfl⟩
  obtain ⟨A3, c3, rfl, s3, e3, f3⟩ := own_strs_n q hkq o3
  have q3 := below_step q2 b3
  have T3 := Lib.hid (T2.out.below b3)
  have P3 := Lib.hid ((P2.out.below b3).more b3.size)
  have Q3 := Lib.hid s3
  have HQ := Lib.hid hkq
  have hzp : ∀ x ∈ p, x.size ≤ 1000 := fun x hx => Nat.le_trans (hlz x hx) (by decide)
  have hzq : ∀ x ∈ q, x.size ≤ 1000 := fun x hx => Nat.le_trans (hlz' x hx) (by decide)
  clear o3 b3 s3 T2 P2 HS2 HZ' HL' hq q2 hlz hlz' hkq
  go_wp2_with fail
  obtain ⟨V1, hV1⟩ : ∃ V, V = verifyE a m rt n p := ⟨_, rfl⟩
  obtain ⟨V2, hV2⟩ : ∃ V, V = verifyE b m rt n q := ⟨_, rfl⟩
  have HV1 := Lib.hid hV1; have HV2 := Lib.hid hV2
  refine (verifyE_any a rt hsa hsr n m n1 n2 m1 m2 A2 c2 kp p _ HP.out e2 f2 T3.out P3.out hzp).mono ?_
  rw [← hV1]
  clear hV1 hV2
  rintro e w4 ⟨rfl, b4⟩
  have T4 := Lib.hid (T3.out.below b4)
  have P4 := Lib.hid ((P3.out.below b4).more b4.size)
  have Q4 := Lib.hid ((Q3.out.below b4).more b4.size)
  have q4 := below_step q3 b4
  clear b4 T3 P3 Q3 q3
  go_wp2_with fail
  refine (verifyE_any b rt hsb hsr n m n1 n2 m1 m2 A3 c3 kq q _ HQ.out e3 f3 T4.out Q4.out hzq).mono ?_
  rw [← HV2.out]
  rintro e w5 ⟨rfl, b5⟩
  have T5 := Lib.hid (T4.out.below b5)
  have P5 := Lib.hid ((P4.out.below b5).more b5.size)
  have Q5 := Lib.hid ((Q4.out.below b5).more b5.size)
  have q5 := below_step q4 b5
  clear b5 T4 P4 Q4 q4
  by_cases h1 : V1 = true
  case neg =>
    obtain rfl : V1 = false := by simpa using h1
    clear h1
    go_wp2_with fail
    go_ret
    exact ⟨rfl, q5⟩
  subst h1
  by_cases h2 : V2 = true
  case neg =>
    obtain rfl : V2 = false := by simpa using h2
    clear h2
    go_wp2_with fail
    go_ret
    exact ⟨rfl, q5⟩
  subst h2
  by_cases hst : a = b
  · have g := str_eq hst
    clear hst
    go_wp2_with fail
    go_ret
    exact ⟨rfl, q5⟩
  have g := str_ne hst
  have ht1 := verifyE_true HV1.out.symm
  have ht2 := verifyE_true HV2.out.symm
  obtain ⟨m, rfl⟩ := Int.eq_ofNat_of_zero_le ht1.1
  obtain ⟨n, rfl⟩ := Int.eq_ofNat_of_zero_le (show 0 ≤ n by have := ht1.2.1; omega)
  obtain ⟨hm0, hmn, hcl⟩ := ext_clash HV1.out.symm HV2.out.symm hst
  simp only [Int.toNat_natCast] at hcl
  have ka : a.size ≤ 1000 := by rw [ht1.2.2.1]; decide
  have kb : b.size ≤ 1000 := by rw [ht2.2.2.1]; decide
  have dp := ht1.2.2.2.1
  have dq := ht2.2.2.2.1
  have lx := sidesR_len a p.reverse m n true
  have ly := sidesR_len b q.reverse m n true
  have sx := sidesR_sizes a ka p.reverse m n true (fun x hx => by rw [dp x (by simpa using hx)]; decide)
  have sy := sidesR_sizes b kb q.reverse m n true (fun x hx => by rw [dq x (by simpa using hx)]; decide)
  have cw1 := fun W hW hSW => sides_any a ka p.reverse A2 c2 kp m n true W (by simp; omega) (by simpa using HP.out) e2 f2 (by omega) (by omega) (by omega) hW hSW (fun x hx => hzp x (by simpa using hx))
  have cw2 := fun W hW hSW => sides_any b kb q.reverse A3 c3 kq m n true W (by simp; omega) (by simpa using HQ.out) e3 f3 (by omega) (by omega) (by omega) hW hSW (fun x hx => hzq x (by simpa using hx))
  rw [List.reverse_reverse] at cw1 cw2
  obtain ⟨X, hX⟩ : ∃ X, X = sidesR a p.reverse m n true := ⟨_, rfl⟩
  obtain ⟨Y, hY⟩ : ∃ Y, Y = sidesR b q.reverse m n true := ⟨_, rfl⟩
  rw [← hX] at cw1 hcl lx sx
  rw [← hY] at cw2 hcl ly sy
  obtain ⟨X, x⟩ := X
  obtain ⟨Y, y⟩ := Y
  dsimp only at hcl lx ly sx sy
  obtain ⟨kx, hkx⟩ : ∃ k, k = X.length := ⟨_, rfl⟩
  obtain ⟨ky, hky⟩ : ∃ k, k = Y.length := ⟨_, rfl⟩
  have HX := Lib.hid hkx; have HY := Lib.hid hky
  have kx1 : kx ≤ 1000 := by simp at lx; omega
  have ky1 : ky ≤ 1000 := by simp at ly; omega
  have HC := Lib.hid hcl
  clear ht1 ht2 dp dq hX hY hst hkx hky lx ly hcl
  go_wp2_with fail
  refine (cw1 _ T5.out P5.out).mono ?_
  rintro e w6 ⟨v6, rfl, o6, b6⟩
  obtain ⟨A6, c6, rfl, s6, e6, f6⟩ := own_strs_n X HX.out o6
  have T6 := Lib.hid (T5.out.below b6)
  have Q6 := Lib.hid ((Q5.out.below b6).more b6.size)
  have X6 := Lib.hid s6
  have q6 := below_step q5 b6
  clear b6 o6 s6 T5 P5 Q5 q5
  go_wp2_with fail
  refine (cw2 _ T6.out Q6.out).mono ?_
  rintro e w7 ⟨v7, rfl, o7, b7⟩
  obtain ⟨A7, c7, rfl, s7, e7, f7⟩ := own_strs_n Y HY.out o7
  have T7 := Lib.hid (T6.out.below b7)
  have X7 := Lib.hid ((X6.out.below b7).more b7.size)
  have Y7 := Lib.hid s7
  have q7 := below_step q6 b7
  clear b7 o7 s7 T6 Q6 X6 q6
  go_wp2_with fail
  refine (coll_any A6 A7 c6 c7 kx ky X Y _ HX.out HY.out kx1 ky1 X7.out Y7.out sx sy T7.out).mono ?_
  rintro e w8 ⟨R, rfl, hR, b8⟩
  obtain rfl := hR HC.out
  go_wp2_with fail
  go_ret
  exact ⟨rfl, below_step q7 b8⟩
end Go.Proofs.YtjcamhekhfokhaaDoor
