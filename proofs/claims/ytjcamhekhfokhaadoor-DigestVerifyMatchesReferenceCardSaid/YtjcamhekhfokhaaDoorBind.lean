/- DigestBinding. -/
import Derived.Test.YtjcamhekhfokhaaDoorColl
namespace Go.Proofs.YtjcamhekhfokhaaDoor
open Go.RowKit

theorem verify_true {rt : ByteArray} {n i : Int} {s : ByteArray} {p : List ByteArray} (h : verifyB rt n i s p = true) :
    0 ≤ i ∧ i < n ∧ (∀ x ∈ p, x.size = 32) ∧ (valueR s p.reverse n.toNat i.toNat).2 = true ∧ (valueR s p.reverse n.toNat i.toNat).1 = rt := by
  rw [verifyB] at h
  by_cases hc : 0 ≤ i ∧ i < n ∧ allDig p = true
  · rw [if_pos hc] at h
    obtain ⟨h0, h1, h2⟩ := hc
    have h3 : (valueR s p.reverse n.toNat i.toNat).2 = true ∧ (valueR s p.reverse n.toNat i.toNat).1 = rt := by simpa using h
    exact ⟨h0, h1, by unfold allDig at h2; simpa using h2, h3.1, h3.2⟩
  · rw [if_neg hc] at h; simp at h
theorem both_clash {rt : ByteArray} {n i : Nat} {s t : ByteArray} {p q : List ByteArray} (hp : verifyB rt n i s p = true) (hq : verifyB rt n i t q = true) (hne : s ≠ t) :
    Clash (wayR s p.reverse n i).1 (wayR t q.reverse n i).1 := by
  obtain ⟨a0, a1, a2, a3, a4⟩ := verify_true hp
  obtain ⟨b0, b1, b2, b3, b4⟩ := verify_true hq
  simp only [Int.toNat_natCast] at a3 a4 b3 b4
  have hi : i < n := by omega
  refine way_clash s t hne _ _ n i (value_len s t _ _ n i a3 b3) (fun x hx => a2 x (by simpa using hx)) (fun x hx => b2 x (by simpa using hx)) ?_
  rw [← value_way s _ n i hi a3, ← value_way t _ n i hi b3, a4, b4]

set_option maxRecDepth 100000 in
set_option maxHeartbeats 2000000 in
theorem bind_walk (rt : ByteArray) (n i : Int) (n1 : -9223372036854775808 ≤ n) (n2 : n ≤ 9223372036854775807) (i1 : -9223372036854775808 ≤ i) (i2 : i ≤ 9223372036854775807) (s t : ByteArray)
    (A A' : Option Addr) (c L c' L' : Nat) (xs ys : List ByteArray) (w : World)
    (hL : L = xs.length) (hLm : L ≤ 9223372036854775807) (hS : Strs w w.heap.size A xs) (hz : ∀ s ∈ xs, s.size ≤ 9223372036854775807)
    (hL' : L' = ys.length) (hLm' : L' ≤ 9223372036854775807) (hS' : Strs w w.heap.size A' ys) (hz' : ∀ s ∈ ys, s.size ≤ 9223372036854775807)
    (hs : s.size ≤ 9223372036854775807) (hts : t.size ≤ 9223372036854775807) (ht : Tab w) :
    Calls Tryd.prog 8 #[.string rt, .int .i64 n, .int .i64 i, .string s, .slice A L c, .string t, .slice A' L' c'] w fun e w' => e = .returned (.bool true) ∧ Below w.heap.size w w' := by
  obtain ⟨M, M1, M2, M3, hM⟩ := min_if s 60 (by omega)
  obtain ⟨S, hSS⟩ : ∃ Y, s.extract 0 M = Y := ⟨_, rfl⟩
  have hYc : S = cutN 60 s := by rw [← hSS, cutN]; congr 1; omega
  have kS : S.size ≤ 60 := by rw [hYc]; exact cutN_size _ _
  have m0 : (0 : Int) ≤ (M : Int) := by omega
  have m1 : (M : Int) ≤ (s.size : Int) := by omega
  obtain ⟨M', M1', M2', M3', hM'⟩ := min_if t 60 (by omega)
  obtain ⟨T, hTT⟩ : ∃ Y, t.extract 0 M' = Y := ⟨_, rfl⟩
  have hYc' : T = cutN 60 t := by rw [← hTT, cutN]; congr 1; omega
  have kT : T.size ≤ 60 := by rw [hYc']; exact cutN_size _ _
  have m0' : (0 : Int) ≤ (M' : Int) := by omega
  have m1' : (M' : Int) ≤ (t.size : Int) := by omega
  have HT := Lib.hid ht; have HS := Lib.hid hS; have HZ := Lib.hid hz; have HL := Lib.hid hL; have HS' := Lib.hid hS'; have HZ' := Lib.hid hz'; have HL' := Lib.hid hL'
  clear ht hS hz hL hS' hz' hL' hYc hYc' M3 M3'
  go_enter Tryd.func8, Tryd.ntmps8
  go_wp2_with fail
  refine (sane_any _ HT.out).mono ?_
  rintro e w1 ⟨rfl, b1⟩
  go_wp2_with fail
  refine (few_any A c L 70 xs _ HL.out hLm (by decide) ((HS.out.below b1).more b1.size) HZ.out).mono ?_
  rintro e w2 ⟨v2, rfl, o2, b2⟩
  have hll : (fewL 70 xs).length ≤ 70 := by rw [few_len]; omega
  have hlz : ∀ x ∈ fewL 70 xs, x.size ≤ 60 := few_size
  obtain ⟨p, hp⟩ : ∃ l, fewL 70 xs = l := ⟨_, rfl⟩
  rw [hp] at o2 hll hlz
  obtain ⟨kp, hkp⟩ : ∃ n, n = p.length := ⟨_, rfl⟩
  obtain ⟨A2, c2, rfl, s2, e2, f2⟩ := own_strs_n p hkp o2
  have q2 := below_step b1 b2
  have T2 := Lib.hid ((HT.out.below b1).below b2)
  have P2 := Lib.hid s2
  have HS2 := Lib.hid ((HS'.out.below q2).more q2.size)
  have HP := Lib.hid hkp
  clear o2 b1 b2 s2 HT HS HZ HL HS' hp hkp
  go_wp2_with fail
  refine (few_any A' c' L' 70 ys _ HL'.out hLm' (by decide) HS2.out HZ'.out).mono ?_
  rintro e w3 ⟨v3, rfl, o3, b3⟩
  have hll' : (fewL 70 ys).length ≤ 70 := by rw [few_len]; omega
  have hlz' : ∀ x ∈ fewL 70 ys, x.size ≤ 60 := few_size
  obtain ⟨q, hq⟩ : ∃ l, fewL 70 ys = l := ⟨_, rfl⟩
  rw [hq] at o3 hll' hlz'
  obtain ⟨kq, hkq⟩ : ∃ n, n = q.length := ⟨_, rfl⟩
  obtain ⟨A3, c3, rfl, s3, e3, f3⟩ := own_strs_n q hkq o3
  have q3 := below_step q2 b3
  have T3 := Lib.hid (T2.out.below b3)
  have P3 := Lib.hid ((P2.out.below b3).more b3.size)
  have Q3 := Lib.hid s3
  have HQ := Lib.hid hkq
  have hzp : ∀ x ∈ p, x.size ≤ 1000 := fun x hx => Nat.le_trans (hlz x hx) (by decide)
  have hzq : ∀ x ∈ q, x.size ≤ 1000 := fun x hx => Nat.le_trans (hlz' x hx) (by decide)
  clear o3 b3 s3 T2 P2 HS2 HZ' HL' hq q2 hlz hlz' hkq
  go_wp2_with fail
  obtain ⟨V1, hV1⟩ : ∃ V, V = verifyB rt n i S p := ⟨_, rfl⟩
  obtain ⟨V2, hV2⟩ : ∃ V, V = verifyB rt n i T q := ⟨_, rfl⟩
  have HV1 := Lib.hid hV1; have HV2 := Lib.hid hV2
  refine (verify_any rt n i n1 n2 i1 i2 S (by omega) A2 c2 kp p _ HP.out e2 f2 T3.out P3.out hzp).mono ?_
  rw [← hV1]
  clear hV1 hV2
  rintro e w4 ⟨rfl, b4⟩
  have T4 := Lib.hid (T3.out.below b4)
  have P4 := Lib.hid ((P3.out.below b4).more b4.size)
  have Q4 := Lib.hid ((Q3.out.below b4).more b4.size)
  have q4 := below_step q3 b4
  clear b4 T3 P3 Q3 q3
  go_wp2_with fail
  refine (verify_any rt n i n1 n2 i1 i2 T (by omega) A3 c3 kq q _ HQ.out e3 f3 T4.out Q4.out hzq).mono ?_
  rw [← HV2.out]
  rintro e w5 ⟨rfl, b5⟩
  have T5 := Lib.hid (T4.out.below b5)
  have P5 := Lib.hid ((P4.out.below b5).more b5.size)
  have Q5 := Lib.hid ((Q4.out.below b5).more b5.size)
  have q5 := below_step q4 b5
  clear b5 T4 P4 Q4 q4
  by_cases h1 : V1 = true
  case neg =>
    obtain rfl : V1 = false := by simpa using h1
    clear h1
    go_wp2_with fail
    go_ret
    exact ⟨rfl, q5⟩
  subst h1
  by_cases h2 : V2 = true
  case neg =>
    obtain rfl : V2 = false := by simpa using h2
    clear h2
    go_wp2_with fail
    go_ret
    exact ⟨rfl, q5⟩
  subst h2
  by_cases hst : S = T
  · have g := str_eq hst
    clear hst
    go_wp2_with fail
    go_ret
    exact ⟨rfl, q5⟩
  have g := str_ne hst
  have ht1 := verify_true HV1.out.symm
  obtain ⟨n, rfl⟩ := Int.eq_ofNat_of_zero_le (show 0 ≤ n by omega)
  obtain ⟨i, rfl⟩ := Int.eq_ofNat_of_zero_le (show 0 ≤ i by omega)
  have hcl := both_clash HV1.out.symm HV2.out.symm hst
  have hin : i < n := by omega
  have lx := wayR_len S p.reverse n i
  have ly := wayR_len T q.reverse n i
  have sx := wayR_sizes S (by omega) p.reverse n i (fun x hx => hzp x (by simpa using hx))
  have sy := wayR_sizes T (by omega) q.reverse n i (fun x hx => hzq x (by simpa using hx))
  have cw1 := fun W hW hSW => way_any S (by omega) p.reverse A2 c2 kp n i W (by simp; omega) (by simpa using HP.out) e2 f2 (by omega) hin hW hSW (fun x hx => hzp x (by simpa using hx))
  have cw2 := fun W hW hSW => way_any T (by omega) q.reverse A3 c3 kq n i W (by simp; omega) (by simpa using HQ.out) e3 f3 (by omega) hin hW hSW (fun x hx => hzq x (by simpa using hx))
  rw [List.reverse_reverse] at cw1 cw2
  obtain ⟨X, hX⟩ : ∃ X, X = wayR S p.reverse n i := ⟨_, rfl⟩
  obtain ⟨Y, hY⟩ : ∃ Y, Y = wayR T q.reverse n i := ⟨_, rfl⟩
  rw [← hX] at cw1 hcl lx sx
  rw [← hY] at cw2 hcl ly sy
  obtain ⟨X, x⟩ := X
  obtain ⟨Y, y⟩ := Y
  dsimp only at hcl lx ly sx sy
  obtain ⟨kx, hkx⟩ : ∃ k, k = X.length := ⟨_, rfl⟩
  obtain ⟨ky, hky⟩ : ∃ k, k = Y.length := ⟨_, rfl⟩
  have HX := Lib.hid hkx; have HY := Lib.hid hky
  have kx1 : kx ≤ 1000 := by simp at lx; omega
  have ky1 : ky ≤ 1000 := by simp at ly; omega
  have HC := Lib.hid hcl
  clear ht1 hX hY hst hkx hky lx ly hcl
  go_wp2_with fail
  refine (cw1 _ T5.out P5.out).mono ?_
  rintro e w6 ⟨v6, rfl, o6, b6⟩
  obtain ⟨A6, c6, rfl, s6, e6, f6⟩ := own_strs_n X HX.out o6
  have T6 := Lib.hid (T5.out.below b6)
  have Q6 := Lib.hid ((Q5.out.below b6).more b6.size)
  have X6 := Lib.hid s6
  have q6 := below_step q5 b6
  clear b6 o6 s6 T5 P5 Q5 q5
  go_wp2_with fail
  refine (cw2 _ T6.out Q6.out).mono ?_
  rintro e w7 ⟨v7, rfl, o7, b7⟩
  obtain ⟨A7, c7, rfl, s7, e7, f7⟩ := own_strs_n Y HY.out o7
  have T7 := Lib.hid (T6.out.below b7)
  have X7 := Lib.hid ((X6.out.below b7).more b7.size)
  have Y7 := Lib.hid s7
  have q7 := below_step q6 b7
  clear b7 o7 s7 T6 Q6 X6 q6
  go_wp2_with fail
  refine (coll_any A6 A7 c6 c7 kx ky X Y _ HX.out HY.out kx1 ky1 X7.out Y7.out sx sy T7.out).mono ?_
  rintro e w8 ⟨R, rfl, hR, b8⟩
  obtain rfl := hR HC.out
  go_wp2_with fail
  go_ret
  exact ⟨rfl, below_step q7 b8⟩
end Go.Proofs.YtjcamhekhfokhaaDoor
