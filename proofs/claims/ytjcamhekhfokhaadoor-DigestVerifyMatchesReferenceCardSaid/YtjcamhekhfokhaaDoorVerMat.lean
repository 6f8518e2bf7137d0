/- DigestVerifyMatchesReference. -/
import Derived.Test.YtjcamhekhfokhaaDoorRefW
import Derived.Test.YtjcamhekhfokhaaDoorExtAcc
namespace Go.Proofs.YtjcamhekhfokhaaDoor
open Go.RowKit

set_option maxRecDepth 100000 in
set_option maxHeartbeats 2000000 in
theorem vermat_walk (old rt : ByteArray) (ho : old.size ≤ 9223372036854775807) (hr : rt.size ≤ 9223372036854775807) (n i : Int) (n1 : -9223372036854775808 ≤ n) (n2 : n ≤ 9223372036854775807) (i1 : -9223372036854775808 ≤ i) (i2 : i ≤ 9223372036854775807) (s : ByteArray) (hs : s.size ≤ 9223372036854775807)
    (A : Option Addr) (c L : Nat) (xs : List ByteArray) (w : World) (hL : L = xs.length) (hLm : L ≤ 9223372036854775807) (hS : Strs w w.heap.size A xs) (hz : ∀ s ∈ xs, s.size ≤ 9223372036854775807) (ht : Tab w) :
    Calls Tryd.prog 5 #[.string old, .string rt, .int .i64 n, .int .i64 i, .string s, .slice A L c] w fun e w' => e = .returned (.bool true) ∧ Below w.heap.size w w' := by
  obtain ⟨M, M1, M2, M3, hM⟩ := min_if s 60 (by omega)
  obtain ⟨S, hSS⟩ : ∃ Y, s.extract 0 M = Y := ⟨_, rfl⟩
  have hYc : S = cutN 60 s := by rw [← hSS, cutN]; congr 1; omega
  have kS : S.size ≤ 60 := by rw [hYc]; exact cutN_size _ _
  have m0 : (0 : Int) ≤ (M : Int) := by omega
  have m1 : (M : Int) ≤ (s.size : Int) := by omega
  have HT := Lib.hid ht; have HS := Lib.hid hS; have HZ := Lib.hid hz; have HL := Lib.hid hL
  clear ht hS hz hL hYc M3
  go_enter Tryd.func5, Tryd.ntmps5
  go_wp2_with fail
  refine (sane_any _ HT.out).mono ?_
  rintro e w1 ⟨rfl, b1⟩
  go_wp2_with fail
  refine (few_any A c L 70 xs _ HL.out hLm (by decide) ((HS.out.below b1).more b1.size) HZ.out).mono ?_
  rintro e w2 ⟨v2, rfl, o2, b2⟩
  have hll : (fewL 70 xs).length ≤ 70 := by rw [few_len]; omega
  have hlz : ∀ x ∈ fewL 70 xs, x.size ≤ 60 := few_size
  obtain ⟨p, hp⟩ : ∃ l, fewL 70 xs = l := ⟨_, rfl⟩
  rw [hp] at o2 hll hlz
  obtain ⟨k, hk⟩ : ∃ n, n = p.length := ⟨_, rfl⟩
  obtain ⟨A2, c2, rfl, s2, e2, f2⟩ := own_strs_n p hk o2
  have q2 := below_step b1 b2
  have T2 := Lib.hid ((HT.out.below b1).below b2)
  have P2 := Lib.hid s2
  have HK := Lib.hid hk
  have hzp : ∀ x ∈ p, x.size ≤ 1000 := fun x hx => Nat.le_trans (hlz x hx) (by decide)
  have cV := fun W hW hSW => verify_any rt n i n1 n2 i1 i2 S (by omega) A2 c2 k p W HK.out e2 f2 hW hSW hzp
  have dV := fun W hW hSW => refverify_any rt n i n1 n2 i1 i2 S (by omega) A2 c2 k p W HK.out e2 f2 hW hSW hzp
  have cE := fun W hW hSW => verifyE_any old rt ho hr n i n1 n2 i1 i2 A2 c2 k p W HK.out e2 f2 hW hSW hzp
  have dE := fun W hSW => refverifyE_any old rt ho hr n i n1 n2 i1 i2 A2 c2 k p W HK.out e2 f2 hSW hzp
  obtain ⟨V, hV⟩ : ∃ V, V = verifyB rt n i S p := ⟨_, rfl⟩
  obtain ⟨E, hE⟩ : ∃ E, E = verifyE old i rt n p := ⟨_, rfl⟩
  rw [← hV] at cV dV
  rw [← hE] at cE dE
  clear o2 b1 b2 s2 HT HS HZ HL hp hk hlz hV hE
  go_wp2_with fail
  refine (cV _ T2.out P2.out).mono ?_
  rintro e w3 ⟨rfl, b3⟩
  have T3 := Lib.hid (T2.out.below b3)
  have P3 := Lib.hid ((P2.out.below b3).more b3.size)
  have q3 := below_step q2 b3
  clear b3 T2 P2 q2 cV
  go_wp2_with fail
  refine (dV _ T3.out P3.out).mono ?_
  rintro e w4 ⟨rfl, b4⟩
  have T4 := Lib.hid (T3.out.below b4)
  have P4 := Lib.hid ((P3.out.below b4).more b4.size)
  have q4 := below_step q3 b4
  clear b4 T3 P3 q3 dV
  go_wp2_with fail
  refine (cE _ T4.out P4.out).mono ?_
  rintro e w5 ⟨rfl, b5⟩
  have P5 := Lib.hid ((P4.out.below b5).more b5.size)
  have q5 := below_step q4 b5
  clear b5 T4 P4 q4 cE
  go_wp2_with fail
  refine (dE _ P5.out).mono ?_
  rintro e w6 ⟨rfl, b6⟩
  go_wp2_with fail
  go_ret
  exact ⟨rfl, below_step q5 b6⟩
end Go.Proofs.YtjcamhekhfokhaaDoor
