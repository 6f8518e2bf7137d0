/- DigestExtensionAccepted. -/
import Derived.Test.YtjcamhekhfokhaaDoorApp
namespace Go.Proofs.YtjcamhekhfokhaaDoor
open Go.RowKit

theorem ext_short (l : List ByteArray) (m : Nat) (hm : m ≤ l.length) : (extE l m).1.length ≤ 2 * bitLen l.length := by
  rw [extE, if_neg (by omega)]
  split
  · simp
  · have h0 : 0 < m := by omega
    have h1 : 0 < l.length := by omega
    have h := part_depth (bitLen l.length) l m true (Nat.le_of_lt (lt_bitLen _)) h0 hm
    have := bitLen_half h1
    simp only [Int.toNat_natCast]
    omega
theorem strs_take_any {w : World} {B : Nat} {A : Option Addr} {xs : List ByteArray} (h : Strs w B A xs) (k : Nat) : Strs w B A (xs.take k) := by
  rcases h with h | ⟨b, o, rfl, hB, hc⟩
  · exact .inl (by rw [h]; simp)
  · exact strs_take hB hc k
theorem ext_out (l : List ByteArray) (m : Int) (h : ¬ (0 ≤ m ∧ m ≤ l.length)) : extE l m = ([], 2) := by rw [extE, if_pos (by omega)]
theorem ver_out (a b : ByteArray) (m n : Int) (p : List ByteArray) (h : ¬ (0 ≤ m ∧ m ≤ n)) : verifyE a m b n p = false := by rw [verifyE, if_neg (fun q => h ⟨q.1, q.2.1⟩)]

set_option maxRecDepth 100000 in
set_option maxHeartbeats 2000000 in
theorem extacc_walk (A : Option Addr) (c L : Nat) (xs : List ByteArray) (m : Int) (mlo : -9223372036854775808 ≤ m) (mhi : m ≤ 9223372036854775807) (w : World) (hL : L = xs.length) (hLm : L ≤ 9223372036854775807) (hS : Strs w w.heap.size A xs) (hz : ∀ s ∈ xs, s.size ≤ 9223372036854775807) (ht : Tab w) :
    Calls Tryd.prog 7 #[.slice A L c, .int .i64 m] w fun e w' => e = .returned (.bool true) ∧ Below w.heap.size w w' := by
  have HT := Lib.hid ht; have HS := Lib.hid hS; have HZ := Lib.hid hz; have HL := Lib.hid hL
  clear ht hS hz hL
  go_enter Tryd.func7, Tryd.ntmps7
  go_wp2_with fail
  refine (sane_any _ HT.out).mono ?_
  rintro e w1 ⟨rfl, b1⟩
  go_wp2_with fail
  refine (few_any A c L 25 xs _ HL.out hLm (by decide) ((HS.out.below b1).more b1.size) HZ.out).mono ?_
  rintro e w2 ⟨v2, rfl, o2, b2⟩
  have hll : (fewL 25 xs).length ≤ 25 := by rw [few_len]; omega
  have hlz : ∀ x ∈ fewL 25 xs, x.size ≤ 60 := few_size
  obtain ⟨l, hl⟩ : ∃ l, fewL 25 xs = l := ⟨_, rfl⟩
  rw [hl] at o2 hll hlz
  obtain ⟨n, hn⟩ : ∃ n, n = l.length := ⟨_, rfl⟩
  obtain ⟨A2, c2, rfl, s2, n2, m2⟩ := own_strs_n l hn o2
  have T2 := Lib.hid ((HT.out.below b1).below b2)
  have S2 := Lib.hid s2
  have q2 := below_step b1 b2
  have HN := Lib.hid hn
  have kn : n ≤ 25 := by omega
  have hz2 : ∀ x ∈ l, x.size ≤ 1000 := fun x hx => Nat.le_trans (hlz x hx) (by decide)
  obtain ⟨RL, hRL⟩ : ∃ R, R = root l := ⟨_, rfl⟩
  have kRL : RL.size = 32 := by rw [hRL]; exact root_size _
  have cRL := fun W (ht : Tab W) (hs : Strs W W.heap.size A2 l) => root_any A2 c2 n l W HN.out n2 m2 ht hs hz2
  rw [← hRL] at cRL
  have HRL := Lib.hid hRL
  clear o2 b1 b2 s2 HT HS HZ HL hl hn hlz hll hRL
  go_wp2_with fail
  refine (cRL _ T2.out S2.out).mono ?_
  rintro e w3 ⟨rfl, b3⟩
  have T3 := Lib.hid (T2.out.below b3)
  have S3 := Lib.hid ((S2.out.below b3).more b3.size)
  have q3 := below_step q2 b3
  clear b3 T2 S2 q2
  go_wp2_with fail
  go_loopw [7] (fun v wr => ∃ j : Nat, v = .int .i64 j ∧ j ≤ n + 1 ∧ Below w3.heap.size w3 wr) (fun v _ => n + 1 - (intOf v).toNat)
  case atStart => exact ⟨0, rfl, by omega, Below.refl _ _⟩
  case round =>
    obtain ⟨j, rfl, hj, hbr⟩ := hrel
    by_cases hjn : j ≤ n
    · have hjl : j ≤ l.length := by rw [← HN.out]; exact hjn
      obtain ⟨E, hE⟩ : ∃ E, extE l (j : Int) = (E, 0) := ⟨(extE l (j : Int)).1, Prod.ext rfl (ext_err _ _ hjl)⟩
      have hEz : ∀ x ∈ E, x.size ≤ 1000 := fun x hx => by rw [ext_dig l j x (by rw [hE]; exact hx)]; decide
      have hver := ext_ok l j hjl
      have hsh := ext_short l j hjl
      obtain ⟨RJ, hRJ⟩ : ∃ R, R = root (l.take j) := ⟨_, rfl⟩
      have kRJ : RJ.size = 32 := by rw [hRJ]; exact root_size _
      rw [hE, ← HN.out, ← HRL.out, ← hRJ] at hver
      rw [hE] at hsh
      obtain ⟨k5, hk5⟩ : ∃ k, k = E.length := ⟨_, rfl⟩
      obtain ⟨B, hB⟩ : ∃ B, B = bitLen n := ⟨_, rfl⟩
      have hBn : B ≤ n := by rw [hB]; exact bitLen_le n
      have hcb := fun W => binary_any n (by omega) W
      rw [← hB] at hcb
      replace hsh : k5 ≤ 2 * B := by rw [hk5, hB, HN.out]; exact hsh
      have cRJ := fun W (ht : Tab W) (hs : Strs W W.heap.size A2 (l.take j)) => root_any A2 c2 j (l.take j) W (by rw [List.length_take]; omega) (by omega) m2 ht hs (fun x hx => hz2 x (List.mem_of_mem_take hx))
      rw [← hRJ] at cRJ
      have HE := Lib.hid hE; have VE := Lib.hid hver; have HK5 := Lib.hid hk5
      obtain ⟨D, hD⟩ : ∃ D, D = 2 * B := ⟨_, rfl⟩
      have e1 : IntKind.i64.wrap (2 * (B : Int)) = (D : Int) := by rw [IntWalk.i64_in _ (by omega)]; omega
      have j1 : ¬ (D : Int) < (k5 : Int) := by omega
      have j2 : (j : Int) ≤ (n : Int) := by omega
      have j0 : (0 : Int) ≤ (j : Int) := by omega
      have j3 : (j : Int) ≤ (c2 : Int) := by omega
      have j4 : (n : Int) ≤ (c2 : Int) := by omega
      have T4 := Lib.hid (T3.out.below hbr)
      have S4 := Lib.hid ((S3.out.below hbr).more hbr.size)
      clear hE hver hsh hRJ hk5 hB hjl hD
      go_wp2_with fail
      refine (extE_any A2 c2 n l j _ HN.out (by omega) n2 m2 T4.out S4.out hz2).mono ?_
      rw [HE.out]; rintro e w5 ⟨v5, rfl, o5, b5⟩
      obtain ⟨A5, c5, rfl, s5, n5, m5⟩ := own_strs_n E HK5.out o5
      have T5 := Lib.hid (T4.out.below b5)
      have S5 := Lib.hid ((S4.out.below b5).more b5.size)
      have E5 := Lib.hid s5
      have q5 := below_step hbr b5
      clear o5 b5 s5 T4 S4
      go_wp2_with fail
      refine (hcb _).mono ?_
      rintro e w6 ⟨rfl, rfl⟩
      go_wp2_with fail
      refine (cRJ _ T5.out (strs_take_any S5.out j)).mono ?_
      rintro e w7 ⟨rfl, b7⟩
      have T7 := Lib.hid (T5.out.below b7)
      have E7 := Lib.hid ((E5.out.below b7).more b7.size)
      have q7 := below_step q5 b7
      clear b7 T5 S5 E5 q5
      go_wp2_with fail
      refine (verifyE_any RJ RL (by rw [kRJ]; decide) (by rw [kRL]; decide) n j (by omega) (by omega) (by omega) (by omega) A5 c5 k5 E _ HK5.out n5 m5 T7.out E7.out hEz).mono ?_
      rw [VE.out]
      rintro e w8 ⟨rfl, b8⟩
      have q8 := below_step q7 b8
      clear b8 T7 E7 q7
      go_wp2
      exact ⟨⟨j + 1, by go_num, by omega, q8⟩, by simp only [intOf]; omega⟩
    · obtain rfl : j = n + 1 := by omega
      have j1 : ¬ ((n + 1 : Nat) : Int) ≤ (n : Int) := by omega
      have T4 := Lib.hid (T3.out.below hbr)
      have S4 := Lib.hid ((S3.out.below hbr).more hbr.size)
      have q4 := below_step q3 hbr
      clear hbr hj hjn
      by_cases hin : 0 ≤ m ∧ m ≤ (n : Int)
      · obtain ⟨mm, rfl⟩ := Int.eq_ofNat_of_zero_le hin.1
        have hml : mm ≤ l.length := by rw [← HN.out]; omega
        obtain ⟨E, hE⟩ : ∃ E, extE l (mm : Int) = (E, 0) := ⟨(extE l (mm : Int)).1, Prod.ext rfl (ext_err _ _ hml)⟩
        have HE := Lib.hid hE
        obtain ⟨i1, i2⟩ := hin
        clear hE hml
        go_wp2_with fail
        refine (extE_any A2 c2 n l mm _ HN.out (by omega) n2 m2 T4.out S4.out hz2).mono ?_
        rw [HE.out]; rintro e w5 ⟨v5, rfl, o5, b5⟩
        have q5 := below_step q4 b5
        clear o5 b5 T4 S4
        go_wp2_with fail
        go_ret
        exact ⟨rfl, q5⟩
      · have hE := ext_out l m (by rw [← HN.out]; exact hin)
        have hV := ver_out RL RL m n [] hin
        have HE := Lib.hid hE; have HV := Lib.hid hV
        clear hE hV
        by_cases i1 : 0 ≤ m
        · have i2 : ¬ m ≤ (n : Int) := fun h => hin ⟨i1, h⟩
          clear hin
          go_wp2_with fail
          refine (extE_any A2 c2 n l m _ HN.out (by omega) n2 m2 T4.out S4.out hz2).mono ?_
          rw [HE.out]; rintro e w5 ⟨v5, rfl, o5, b5⟩
          obtain ⟨A5, c5, rfl, s5, n5, m5⟩ := own_strs_n [] (n := 0) rfl o5
          have T5 := Lib.hid (T4.out.below b5)
          have E5 := Lib.hid s5
          have q5 := below_step q4 b5
          clear o5 b5 s5 T4 S4 q4
          go_wp2_with fail
          refine (verifyE_any RL RL (by rw [kRL]; decide) (by rw [kRL]; decide) n m (by omega) (by omega) mlo mhi A5 c5 0 [] _ rfl n5 m5 T5.out E5.out (by simp)).mono ?_
          rw [HV.out]
          rintro e w8 ⟨rfl, b8⟩
          go_wp2_with fail
          go_ret
          refine ⟨?_, below_step q5 b8⟩
          show Ending.returned (.bool (!decide (m ≤ (n : Int)))) = _
          rw [decide_eq_false (by omega)]; rfl
        · clear hin
          go_wp2_with fail
          refine (extE_any A2 c2 n l m _ HN.out (by omega) n2 m2 T4.out S4.out hz2).mono ?_
          rw [HE.out]; rintro e w5 ⟨v5, rfl, o5, b5⟩
          obtain ⟨A5, c5, rfl, s5, n5, m5⟩ := own_strs_n [] (n := 0) rfl o5
          have T5 := Lib.hid (T4.out.below b5)
          have E5 := Lib.hid s5
          have q5 := below_step q4 b5
          clear o5 b5 s5 T4 S4 q4
          go_wp2_with fail
          refine (verifyE_any RL RL (by rw [kRL]; decide) (by rw [kRL]; decide) n m (by omega) (by omega) mlo mhi A5 c5 0 [] _ rfl n5 m5 T5.out E5.out (by simp)).mono ?_
          rw [HV.out]
          rintro e w8 ⟨rfl, b8⟩
          go_wp2_with fail
          go_ret
          exact ⟨rfl, below_step q5 b8⟩
end Go.Proofs.YtjcamhekhfokhaaDoor
