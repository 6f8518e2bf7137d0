/- DigestSplit. -/
import Derived.Test.YtjcamhekhfokhaaDoorApp
namespace Go.Proofs.YtjcamhekhfokhaaDoor
open Go.RowKit

set_option maxRecDepth 100000 in
set_option maxHeartbeats 2000000 in
theorem split_walk (A : Option Addr) (c L : Nat) (xs : List ByteArray) (s : ByteArray) (w : World) (hL : L = xs.length) (hLm : L ≤ 9223372036854775807) (hS : Strs w w.heap.size A xs) (hz : ∀ s ∈ xs, s.size ≤ 9223372036854775807) (hs : s.size ≤ 9223372036854775807) (ht : Tab w) :
    Calls Tryd.prog 11 #[.slice A L c, .string s] w fun e w' => e = .returned (.bool true) ∧ Below w.heap.size w w' := by
  obtain ⟨i0, hi0, hz0, hz1, hz2⟩ := info_parts string_info
  obtain ⟨M, M1, M2, M3, hM⟩ := min_if s 60 (by omega)
  obtain ⟨Y, hY⟩ : ∃ Y, s.extract 0 M = Y := ⟨_, rfl⟩
  have hYc : Y = cutN 60 s := by
    rw [← hY, cutN]; congr 1; omega
  have kY : Y.size ≤ 60 := by rw [hYc]; exact cutN_size _ _
  have m0 : (0 : Int) ≤ (M : Int) := by omega
  have m1 : (M : Int) ≤ (s.size : Int) := by omega
  have HT := Lib.hid ht; have HS := Lib.hid hS; have HZ := Lib.hid hz; have HL := Lib.hid hL
  clear ht hS hz hL hYc M3
  go_enter Tryd.func11, Tryd.ntmps11
  go_wp2_with fail
  refine (sane_any _ HT.out).mono ?_
  rintro e w1 ⟨rfl, b1⟩
  go_wp2_with fail
  refine (few_any A c L 40 xs _ HL.out hLm (by decide) ((HS.out.below b1).more b1.size) HZ.out).mono ?_
  rintro e w2 ⟨v2, rfl, o2, b2⟩
  have hll : (fewL 40 xs).length ≤ 40 := by rw [few_len]; omega
  have hlz : ∀ x ∈ fewL 40 xs, x.size ≤ 60 := few_size
  obtain ⟨l, hl⟩ : ∃ l, fewL 40 xs = l := ⟨_, rfl⟩
  rw [hl] at o2 hll hlz
  obtain ⟨n, hn⟩ : ∃ n, n = l.length := ⟨_, rfl⟩
  obtain ⟨A2, c2, rfl, s2, n2, m2⟩ := own_strs_n l hn o2
  have T2 := Lib.hid ((HT.out.below b1).below b2)
  have S2 := Lib.hid s2
  have q2 := below_step b1 b2
  have HN := Lib.hid hn
  have kn : n ≤ 40 := by omega
  clear o2 b1 b2 s2 HT HS HZ HL hl hn
  have a1 := below_alloc w2 (.cells #[] 9)
  have S3 := Lib.hid ((S2.out.below a1).more a1.size)
  have O3 := own_new w2 #[] 0 rfl (by decide)
  obtain ⟨N1, hN1⟩ : ∃ N, N = n + 1 := ⟨_, rfl⟩
  have HN1 := Lib.hid hN1
  have kN : N1 = (l ++ [Y]).length := by rw [hN1, HN.out]; simp
  have HKN := Lib.hid kN
  clear hN1 kN
  go_wp2_with (first
    | (at_builtin; (refine wpList_append_strs rfl _ _ rfl w2.heap.size _ 0 [] rfl O3 A2 n c2 l rfl HN.out S3.out (by omega) a1.size ?_; intro v3 w3 o3 g3; rw [Nat.zero_add, List.nil_append] at o3; have q3 := keep_grown a1 g3 O3; have q4 := keep_alloc q3 (.cells #[.string Y] 9)))
    | (at_builtin; (refine wpList_append_strs rfl _ _ rfl w2.heap.size _ n l rfl (o3.alloc _) _ 1 1 [Y] rfl rfl (strs_new1 w3 Y) (by omega) q4.size ?_; intro v4 w4 o4 g4; have q5 := keep_grown q4 g4 (o3.alloc _); obtain ⟨A4, c4, rfl, s4, n4, m4⟩ := own_strs_n (n := N1) (l ++ [Y]) HKN.out (by rw [← HKN.out, HN1.out]; exact o4); have T4 := Lib.hid (T2.out.below q5); have S4 := Lib.hid s4; have L4 := Lib.hid ((S2.out.below q5).more q5.size); have q6 := below_step q2 q5; clear s4 o4 g4 q5 q4 q3 o3 g3 O3 S3 a1 T2 S2 q2)))
  obtain ⟨E, hE⟩ : ∃ E, extE (l ++ [Y]) (n : Int) = (E, 0) := ⟨(extE (l ++ [Y]) (n : Int)).1, Prod.ext rfl (ext_err _ _ (by rw [HN.out]; simp))⟩
  have hEz : ∀ x ∈ E, x.size ≤ 1000 := fun x hx => by rw [ext_dig (l ++ [Y]) n x (by rw [hE]; exact hx)]; decide
  have hver := ext_ok (l ++ [Y]) n (by rw [HN.out]; simp)
  have hz4 : ∀ x ∈ l ++ [Y], x.size ≤ 1000 := by
    intro x hx
    rcases List.mem_append.1 hx with hx | hx
    · exact Nat.le_trans (hlz x hx) (by decide)
    · simp at hx; subst hx; omega
  have hz2 : ∀ x ∈ l, x.size ≤ 1000 := fun x hx => Nat.le_trans (hlz x hx) (by decide)
  rw [hE, ← HKN.out, show (l ++ [Y]).take n = l by rw [HN.out]; simp] at hver
  have kN1 : N1 ≤ 1000 := by rw [HN1.out]; omega
  have kNc : N1 ≤ 9223372036854775807 := by omega
  have kc2 : c2 ≤ 9223372036854775807 := m2
  obtain ⟨RL, hRL⟩ : ∃ R, R = root l := ⟨_, rfl⟩
  obtain ⟨RM, hRM⟩ : ∃ R, R = root (l ++ [Y]) := ⟨_, rfl⟩
  have kRL : RL.size = 32 := by rw [hRL]; exact root_size _
  have kRM : RM.size = 32 := by rw [hRM]; exact root_size _
  have cRL := fun W (ht : Tab W) (hs : Strs W W.heap.size A2 l) => root_any A2 c2 n l W HN.out n2 m2 ht hs hz2
  have cRM := fun W (ht : Tab W) (hs : Strs W W.heap.size A4 (l ++ [Y])) => root_any A4 c4 N1 (l ++ [Y]) W HKN.out n4 m4 ht hs hz4
  rw [← hRL] at cRL hver
  rw [← hRM] at cRM hver
  have ve := Lib.hid hver
  have HRL := Lib.hid hRL; have HRM := Lib.hid hRM; have HE := Lib.hid hE
  clear hver hRL hRM hE hlz hll
  refine (extE_any A4 c4 N1 (l ++ [Y]) n _ HKN.out kN1 n4 m4 T4.out S4.out hz4).mono ?_
  rw [HE.out]; rintro e w5 ⟨v5, rfl, o5, b5⟩
  obtain ⟨k5, hk5⟩ : ∃ k, k = E.length := ⟨_, rfl⟩
  obtain ⟨A5, c5, rfl, s5, n5, m5⟩ := own_strs_n E hk5 o5
  have T5 := Lib.hid (T4.out.below b5)
  have S5 := Lib.hid ((S4.out.below b5).more b5.size)
  have L5 := Lib.hid ((L4.out.below b5).more b5.size)
  have E5 := Lib.hid s5
  have HK5 := Lib.hid hk5
  have q7 := below_step q6 b5
  clear o5 b5 s5 hk5 T4 S4 L4 q6
  go_wp2_with fail
  trace "1"
  refine (cRL _ T5.out L5.out).mono ?_
  rintro e w6 ⟨rfl, b6⟩
  have T6 := Lib.hid (T5.out.below b6)
  have S6 := Lib.hid ((S5.out.below b6).more b6.size)
  have L6 := Lib.hid ((L5.out.below b6).more b6.size)
  have E6 := Lib.hid ((E5.out.below b6).more b6.size)
  have q8 := below_step q7 b6
  clear b6 T5 S5 L5 E5 q7
  go_wp2_with fail
  trace "2"
  refine (cRM _ T6.out S6.out).mono ?_
  rintro e w7 ⟨rfl, b7⟩
  have T7 := Lib.hid (T6.out.below b7)
  have S7 := Lib.hid ((S6.out.below b7).more b7.size)
  have L7 := Lib.hid ((L6.out.below b7).more b7.size)
  have E7 := Lib.hid ((E6.out.below b7).more b7.size)
  have q9 := below_step q8 b7
  clear b7 T6 S6 L6 E6 q8
  go_wp2_with fail
  trace "3"
  refine (verifyE_any RL RM (by rw [kRL]; decide) (by rw [kRM]; decide) N1 n (by omega) (by omega) (by omega) (by omega) A5 c5 k5 E _ HK5.out n5 m5 T7.out E7.out hEz).mono ?_
  rw [ve.out]
  rintro e w8 ⟨rfl, b8⟩
  have T8 := Lib.hid (T7.out.below b8)
  have S8 := Lib.hid ((S7.out.below b8).more b8.size)
  have L8 := Lib.hid ((L7.out.below b8).more b8.size)
  have q10 := below_step q9 b8
  clear b8 T7 S7 L7 E7 q9
  by_cases h0 : n = 0
  · have hl0 : l = [] := List.eq_nil_of_length_eq_zero (by rw [← HN.out]; exact h0)
    have kY2 : Y.size ≤ 100000000 := by omega
    have g1 : RM = leafS Y := by rw [HRM.out, hl0]; exact root_one Y
    have g2 : RL = sumS ⟨#[]⟩ := by rw [HRL.out, hl0]; exact root_nil
    obtain ⟨Z1, hZ1⟩ : ∃ Z, Z = leafS Y := ⟨_, rfl⟩
    obtain ⟨Z2, hZ2⟩ : ∃ Z, Z = sumS ⟨#[]⟩ := ⟨_, rfl⟩
    rw [← hZ1] at g1
    rw [← hZ2] at g2
    have e1 := str_eq g1
    have e2 := str_eq g2
    have HZ1 := Lib.hid hZ1; have HZ2 := Lib.hid hZ2
    have gk : ((n : Int) == 0) = true := by rw [h0]; rfl
    clear h0 hl0 g1 g2 hZ1 hZ2
    go_wp2_with fail
    trace "5"
    refine (cRM _ T8.out S8.out).mono ?_
    rintro e w9 ⟨rfl, b9⟩
    have T9 := Lib.hid (T8.out.below b9)
    have L9 := Lib.hid ((L8.out.below b9).more b9.size)
    have q11 := below_step q10 b9
    clear b9 T8 S8 L8 q10
    go_wp2_with fail
    trace "6"
    refine (leaf_any Y kY2 _ T9.out).mono ?_
    rw [← HZ1.out]
    rintro e w10 ⟨rfl, b10⟩
    have T10 := Lib.hid (T9.out.below b10)
    have L10 := Lib.hid ((L9.out.below b10).more b10.size)
    have q12 := below_step q11 b10
    clear b10 T9 L9 q11
    go_wp2_with fail
    trace "7"
    refine (cRL _ T10.out L10.out).mono ?_
    rintro e w11 ⟨rfl, b11⟩
    have T11 := Lib.hid (T10.out.below b11)
    have q13 := below_step q12 b11
    clear b11 T10 L10 q12
    go_wp2_with fail
    trace "8"
    refine (sum_any ⟨#[]⟩ (by decide) _ T11.out).mono ?_
    rw [← HZ2.out]
    rintro e w12 ⟨rfl, b12⟩
    go_wp2_with fail
    trace "9"
    go_ret
    exact ⟨rfl, below_step q13 b12⟩
  · have h2 : 2 ≤ (l ++ [Y]).length := by rw [← HKN.out, HN1.out]; omega
    have h2N : 2 ≤ N1 := by rw [HN1.out]; omega
    have hsp := root_split h2
    rw [← HRM.out, ← HKN.out] at hsp
    obtain ⟨K, hK⟩ : ∃ K, K = half N1 := ⟨_, rfl⟩
    have hKl := half_lt h2N
    have hKp := half_pos N1
    have cl := left_any N1 h2N (by omega)
    rw [← hK] at hsp hKl hKp cl
    obtain ⟨R1, hR1⟩ : ∃ R, R = root ((l ++ [Y]).take K) := ⟨_, rfl⟩
    obtain ⟨R2, hR2⟩ : ∃ R, R = root ((l ++ [Y]).drop K) := ⟨_, rfl⟩
    have kR1 : R1.size = 32 := by rw [hR1]; exact root_size _
    have kR2 : R2.size = 32 := by rw [hR2]; exact root_size _
    obtain ⟨bb, oo, rfl, hbb⟩ := strs_some S8.out (by intro e; rw [e] at h2; simp at h2)
    have hc4 := strs_cell S8.out
    have ST := Lib.hid (strs_take hbb hc4 K)
    have SD := Lib.hid (strs_drop hbb hc4 K)
    have hlen : (l ++ [Y]).length = N1 := HKN.out.symm
    have cT := fun W (ht : Tab W) (hs : Strs W W.heap.size (some ⟨bb, oo, none⟩) ((l ++ [Y]).take K)) => root_any (some ⟨bb, oo, none⟩) c4 K ((l ++ [Y]).take K) W (by rw [List.length_take, hlen]; omega) (by omega) m4 ht hs (fun x hx => hz4 x (List.mem_of_mem_take hx))
    have cD := fun W (ht : Tab W) (hs : Strs W W.heap.size (some ⟨bb, oo + K, none⟩) ((l ++ [Y]).drop K)) => root_any (some ⟨bb, oo + K, none⟩) (c4 - K) (N1 - K) ((l ++ [Y]).drop K) W (by rw [List.length_drop, hlen]) (by omega) (by omega) ht hs (fun x hx => hz4 x (List.mem_of_mem_drop hx))
    have cN := fun W (ht : Tab W) => node_any R1 R2 (by rw [kR1]; decide) (by rw [kR2]; decide) W ht
    rw [← hR1] at cT
    rw [← hR2] at cD
    have HR1 := Lib.hid hR1; have HR2 := Lib.hid hR2
    rw [← hR1, ← hR2] at hsp
    obtain ⟨Z, hZ⟩ : ∃ Z, Z = nodeS R1 R2 := ⟨_, rfl⟩
    rw [← hZ] at hsp cN
    have HZ := Lib.hid hZ
    have e1 := str_eq hsp
    have gk : ((n : Int) == 0) = false := by rw [beq_eq_false_iff_ne]; omega
    have k0 : (0 : Int) ≤ (K : Int) := by omega
    have k1 : (K : Int) ≤ (N1 : Int) := by omega
    have k2 : (K : Int) ≤ (c4 : Int) := by omega
    have k3 : (N1 : Int) ≤ (c4 : Int) := by omega
    have ck : ¬ c4 = K := by omega
    clear h0 h2 h2N hsp hK hR1 hR2 hZ hc4 hlen
    go_wp2_with fail
    trace "10"
    refine (cl _).mono ?_
    rintro e w9 ⟨rfl, rfl⟩
    go_wp2_with fail
    trace "11"
    go_region_held3 (fun w' => Below w9.heap.size w9 w') (first | go_keep | exact (Below.refl _ _).drew | exact Below.trans (by assumption) (Below.mono (by assumption) (Below.size (by assumption))))
      (first
        | (go_at_call 17; ((with_reducible refine (cN _ (T8.out.below (by assumption))).mono ?_); rintro e w4 ⟨rfl, b4⟩))
        | (go_at_call 27; ((with_reducible refine (cRM _ (T8.out.below (by assumption)) ((S8.out.below (by assumption)).more (Below.size (by assumption)))).mono ?_); rintro e w4 ⟨rfl, b4⟩))
        | (go_at_call 27; ((with_reducible refine (cT _ (T8.out.below (by assumption)) ((ST.out.below (by assumption)).more (Below.size (by assumption)))).mono ?_); rintro e w4 ⟨rfl, b4⟩))
        | (go_at_call 27; ((with_reducible refine (cD _ (T8.out.below (by assumption)) ((SD.out.below (by assumption)).more (Below.size (by assumption)))).mono ?_); rintro e w4 ⟨rfl, b4⟩)))
    trace "12"
    go_wp2
    trace "13"
    go_ret
    exact ⟨rfl, below_step q10 (by assumption)⟩
end Go.Proofs.YtjcamhekhfokhaaDoor
