/- dialtonelaw02.sane: true, where the table holds its words. -/
import Derived.Test.YtjcamhekhfokhaaDoorSaneM
namespace Go.Proofs.YtjcamhekhfokhaaDoor
open Go.RowKit

/-- A slice of its own reads as the strings it holds. -/
theorem own_strs {w : World} {B : Nat} {v : Value} {l : List ByteArray} (h : w.ownsRow B 9 1 v l.length (l.map Value.string)) :
    ∃ A c, v = .slice A l.length c ∧ Strs w w.heap.size A l ∧ l.length ≤ c ∧ c ≤ 9223372036854775807 := by
  obtain ⟨_, ⟨rfl, h0⟩ | ⟨g, cap, cur, rfl, hb, hg, hn, hm, hsz, htk⟩⟩ := h
  · refine ⟨none, 0, by rw [h0], .inl (List.eq_nil_of_length_eq_zero h0), by omega, by omega⟩
  · refine ⟨_, _, rfl, .inr ⟨g, 0, rfl, ?_, fun i s hi => ?_⟩, hn, by unfold maxLen at hm; omega⟩
    · rcases Nat.lt_or_ge g w.heap.size with hlt | hge
      · exact hlt
      · rw [Array.getElem?_eq_none hge] at hg; cases hg
    · rw [Nat.zero_add]
      refine Row.at (w := w) (g := g) (t := 9) (C := cur) hg ?_
      have hi' : i < l.length := by
        rcases Nat.lt_or_ge i l.length with hlt | hge
        · exact hlt
        · rw [List.getElem?_eq_none hge] at hi; cases hi
      have h1 : (l.map Value.string)[i]? = some (.string s) := by rw [List.getElem?_map, hi]; rfl
      rw [← htk, List.getElem?_take_of_lt (by omega)] at h1
      simpa using h1
theorem own_strs_n {w : World} {B n : Nat} {v : Value} (l : List ByteArray) (hn : n = l.length) (h : w.ownsRow B 9 1 v l.length (l.map Value.string)) :
    ∃ A c, v = .slice A n c ∧ Strs w w.heap.size A l ∧ n ≤ c ∧ c ≤ 9223372036854775807 := by
  subst hn; exact own_strs h
theorem strs_new3 (w : World) (a b c : ByteArray) : Strs (w.alloc (.cells #[.string a, .string b, .string c] 9)) (w.alloc (.cells #[.string a, .string b, .string c] 9)).heap.size (some ⟨w.heap.size, 0, none⟩) [a, b, c] := by
  refine .inr ⟨w.heap.size, 0, rfl, by simp, fun i s hi => ?_⟩
  rw [Nat.zero_add]
  refine (Row.made w _ _).at ?_
  match i, hi with
  | 0, hi => simpa using hi
  | 1, hi => simpa using hi
  | 2, hi => simpa using hi
  | i + 3, hi => simp at hi


theorem str_lit {H : ByteArray} {l : List UInt8} (h : H = ⟨l.toArray⟩) : (H.toList == l) = true := by rw [h, ByteArray.toList_eq]; simp
/-- The examples' facts, over names. -/
structure Facts (a b c d P X Y R R1 R2 H1 H2 : ByteArray) : Prop where
  f1 : proofE [a, b, c] 2 = ([P], 0)
  f2 : extE [a, b, c] 1 = ([X, Y], 0)
  f3 : proofE [a, b, c] 3 = ([], 2)
  r0 : root [a, b, c] = R
  r1 : root [a] = R1
  r2 : root [a, b] = R2
  sP : P.size = 32
  sX : X.size = 32
  sY : Y.size = 32
  sR : R.size = 32
  sR1 : R1.size = 32
  sR2 : R2.size = 32
  h1 : (⟨(hexL (sumS ⟨#[]⟩).data.toList).toArray⟩ : ByteArray) = H1
  h2 : (⟨(hexL (sumS ⟨#[97, 98, 99]⟩).data.toList).toArray⟩ : ByteArray) = H2
  e1 : H1 = ⟨#[101, 51, 98, 48, 99, 52, 52, 50, 57, 56, 102, 99, 49, 99, 49, 52, 57, 97, 102, 98, 102, 52, 99, 56, 57, 57, 54, 102, 98, 57, 50, 52, 50, 55, 97, 101, 52, 49, 101, 52, 54, 52, 57, 98, 57, 51, 52, 99, 97, 52, 57, 53, 57, 57, 49, 98, 55, 56, 53, 50, 98, 56, 53, 53]⟩
  e2 : H2 = ⟨#[98, 97, 55, 56, 49, 54, 98, 102, 56, 102, 48, 49, 99, 102, 101, 97, 52, 49, 52, 49, 52, 48, 100, 101, 53, 100, 97, 101, 50, 50, 50, 51, 98, 48, 48, 51, 54, 49, 97, 51, 57, 54, 49, 55, 55, 97, 57, 99, 98, 52, 49, 48, 102, 102, 54, 49, 102, 50, 48, 48, 49, 53, 97, 100]⟩
  vc : verifyB R 3 2 c [P] = true
  vd : verifyB R 3 2 d [P] = false
  va : verifyE R1 1 R 3 [X, Y] = true
  vb : verifyE R2 1 R 3 [X, Y] = false
theorem facts : ∃ P X Y R R1 R2 H1 H2, Facts ⟨#[97]⟩ ⟨#[98]⟩ ⟨#[99]⟩ ⟨#[100]⟩ P X Y R R1 R2 H1 H2 :=
  ⟨_, _, _, _, _, _, _, _, proof3, ext3, proof4, rfl, rfl, rfl, nodeS_size _ _, leafS_size _, leafS_size _, root_size _, root_size _, root_size _, rfl, rfl, by rw [hex_0], by rw [show (⟨#[97, 98, 99]⟩ : ByteArray) = sABC from rfl, hex_abc], ver_c, ver_d, vex_a, vex_b⟩

set_option maxRecDepth 100000 in
set_option maxHeartbeats 2000000 in
theorem sane_any (w : World) (ht : Tab w) :
    Calls Tryd.prog 12 #[] w fun e w' => e = .returned (.bool true) ∧ Below w.heap.size w w' := by
  obtain ⟨P, X, Y, R, R1, R2, H1, H2, F⟩ := facts
  have ba : Below w.heap.size w (w.alloc (.cells #[.string ⟨#[97]⟩, .string ⟨#[98]⟩, .string ⟨#[99]⟩] 9)) := (Below.refl _ _).alloc (Nat.le_refl _) _
  have hS := strs_new3 w ⟨#[97]⟩ ⟨#[98]⟩ ⟨#[99]⟩
  have HT := Lib.hid (ht.below ba)
  have HS := Lib.hid hS
  have hz : ∀ s ∈ ([⟨#[97]⟩, ⟨#[98]⟩, ⟨#[99]⟩] : List ByteArray), s.size ≤ 1000 := by
    intro s hs; simp at hs; rcases hs with rfl | rfl | rfl <;> decide
  have zP : ∀ s ∈ [P], s.size ≤ 1000 := by intro s hs; simp at hs; subst hs; rw [F.sP]; decide
  have zX : ∀ s ∈ [X, Y], s.size ≤ 1000 := by
    intro s hs; simp at hs
    rcases hs with rfl | rfl
    · rw [F.sX]; decide
    · rw [F.sY]; decide
  have g1 := str_lit (l := [101, 51, 98, 48, 99, 52, 52, 50, 57, 56, 102, 99, 49, 99, 49, 52, 57, 97, 102, 98, 102, 52, 99, 56, 57, 57, 54, 102, 98, 57, 50, 52, 50, 55, 97, 101, 52, 49, 101, 52, 54, 52, 57, 98, 57, 51, 52, 99, 97, 52, 57, 53, 57, 57, 49, 98, 55, 56, 53, 50, 98, 56, 53, 53]) F.e1
  have g2 := str_lit (l := [98, 97, 55, 56, 49, 54, 98, 102, 56, 102, 48, 49, 99, 102, 101, 97, 52, 49, 52, 49, 52, 48, 100, 101, 53, 100, 97, 101, 50, 50, 50, 51, 98, 48, 48, 51, 54, 49, 97, 51, 57, 54, 49, 55, 55, 97, 57, 99, 98, 52, 49, 48, 102, 102, 54, 49, 102, 50, 48, 48, 49, 53, 97, 100]) F.e2
  have kH1 : H1.size ≤ 1000 := by rw [F.e1]; decide
  have kH2 : H2.size ≤ 1000 := by rw [F.e2]; decide
  have kS1 : (sumS ⟨#[]⟩).size = 32 := sumS_size _
  have kS2 : (sumS ⟨#[97, 98, 99]⟩).size = 32 := sumS_size _
  clear ht hS
  go_enter Tryd.func12, Tryd.ntmps12
  go_wp2_with fail
  refine (proofE_any _ 3 3 [⟨#[97]⟩, ⟨#[98]⟩, ⟨#[99]⟩] 2 _ rfl (by decide) (by decide) (by decide) HT.out HS.out hz).mono ?_
  rw [F.f1]; rintro e w1 ⟨v1, rfl, o1, b1⟩
  obtain ⟨A1, c1, rfl, s1, n1, m1⟩ := own_strs_n (n := 1) [P] rfl o1
  have T1 := Lib.hid (HT.out.below b1)
  have L1 := Lib.hid ((HS.out.below b1).more b1.size)
  have S1 := Lib.hid s1
  have q1 := below_step ba b1
  clear o1 b1 s1
  go_wp2_with fail
  trace "1"
  refine (extE_any _ 3 3 [⟨#[97]⟩, ⟨#[98]⟩, ⟨#[99]⟩] 1 _ rfl (by decide) (by decide) (by decide) T1.out L1.out hz).mono ?_
  rw [F.f2]; rintro e w2 ⟨v2, rfl, o2, b2⟩
  obtain ⟨A2, c2, rfl, s2, n2, m2⟩ := own_strs_n (n := 2) [X, Y] rfl o2
  have T2 := Lib.hid (T1.out.below b2)
  have L2 := Lib.hid ((L1.out.below b2).more b2.size)
  have S2 := Lib.hid ((S1.out.below b2).more b2.size)
  have E2 := Lib.hid s2
  have q2 := below_step q1 b2
  clear o2 b2 s2 T1 L1 S1 q1
  go_wp2_with fail
  trace "2"
  refine (proofE_any _ 3 3 [⟨#[97]⟩, ⟨#[98]⟩, ⟨#[99]⟩] 3 _ rfl (by decide) (by decide) (by decide) T2.out L2.out hz).mono ?_
  rw [F.f3]; rintro e w3 ⟨v3, rfl, o3, b3⟩
  have T3 := Lib.hid (T2.out.below b3)
  have L3 := Lib.hid ((L2.out.below b3).more b3.size)
  have S3 := Lib.hid ((S2.out.below b3).more b3.size)
  have E3 := Lib.hid ((E2.out.below b3).more b3.size)
  have q3 := below_step q2 b3
  clear o3 b3 T2 L2 S2 E2 q2
  go_wp2_with fail
  trace "3"
  refine (root_any _ 3 3 [⟨#[97]⟩, ⟨#[98]⟩, ⟨#[99]⟩] _ rfl (by decide) (by decide) T3.out L3.out hz).mono ?_
  rw [F.r0]; rintro e w4 ⟨rfl, b4⟩
  have T4 := Lib.hid (T3.out.below b4)
  have L4 := Lib.hid ((L3.out.below b4).more b4.size)
  have S4 := Lib.hid ((S3.out.below b4).more b4.size)
  have E4 := Lib.hid ((E3.out.below b4).more b4.size)
  have q4 := below_step q3 b4
  clear b4 T3 L3 S3 E3 q3
  go_wp2_with fail
  trace "4"
  refine (sum_any ⟨#[]⟩ (by decide) _ T4.out).mono ?_
  rintro e w5 ⟨rfl, b5⟩
  have T5 := Lib.hid (T4.out.below b5)
  have L5 := Lib.hid ((L4.out.below b5).more b5.size)
  have S5 := Lib.hid ((S4.out.below b5).more b5.size)
  have E5 := Lib.hid ((E4.out.below b5).more b5.size)
  have q5 := below_step q4 b5
  clear b5 T4 L4 S4 E4 q4
  go_wp2_with fail
  trace "5"
  refine (hex_any _ (by omega) _).mono ?_
  rw [F.h1]; rintro e w6 ⟨rfl, b6⟩
  have T6 := Lib.hid (T5.out.below b6)
  have L6 := Lib.hid ((L5.out.below b6).more b6.size)
  have S6 := Lib.hid ((S5.out.below b6).more b6.size)
  have E6 := Lib.hid ((E5.out.below b6).more b6.size)
  have q6 := below_step q5 b6
  clear b6 T5 L5 S5 E5 q5
  go_wp2_with fail
  trace "6"
  refine (sum_any ⟨#[97, 98, 99]⟩ (by decide) _ T6.out).mono ?_
  rintro e w7 ⟨rfl, b7⟩
  have T7 := Lib.hid (T6.out.below b7)
  have L7 := Lib.hid ((L6.out.below b7).more b7.size)
  have S7 := Lib.hid ((S6.out.below b7).more b7.size)
  have E7 := Lib.hid ((E6.out.below b7).more b7.size)
  have q7 := below_step q6 b7
  clear b7 T6 L6 S6 E6 q6
  go_wp2_with fail
  trace "7"
  refine (hex_any _ (by omega) _).mono ?_
  rw [F.h2]; rintro e w8 ⟨rfl, b8⟩
  have T8 := Lib.hid (T7.out.below b8)
  have L8 := Lib.hid ((L7.out.below b8).more b8.size)
  have S8 := Lib.hid ((S7.out.below b8).more b8.size)
  have E8 := Lib.hid ((E7.out.below b8).more b8.size)
  have q8 := below_step q7 b8
  clear b8 T7 L7 S7 E7 q7
  go_wp2_with fail
  trace "8"
  refine (verify_any R 3 2 (by decide) (by decide) (by decide) (by decide) ⟨#[99]⟩ (by decide) _ _ 1 [P] _ rfl n1 m1 T8.out S8.out zP).mono ?_
  rw [F.vc]; rintro e w9 ⟨rfl, b9⟩
  have T9 := Lib.hid (T8.out.below b9)
  have L9 := Lib.hid ((L8.out.below b9).more b9.size)
  have S9 := Lib.hid ((S8.out.below b9).more b9.size)
  have E9 := Lib.hid ((E8.out.below b9).more b9.size)
  have q9 := below_step q8 b9
  clear b9 T8 L8 S8 E8 q8
  go_wp2_with fail
  trace "9"
  refine (verify_any R 3 2 (by decide) (by decide) (by decide) (by decide) ⟨#[100]⟩ (by decide) _ _ 1 [P] _ rfl n1 m1 T9.out S9.out zP).mono ?_
  rw [F.vd]; rintro e w10 ⟨rfl, b10⟩
  have T10 := Lib.hid (T9.out.below b10)
  have L10 := Lib.hid ((L9.out.below b10).more b10.size)
  have E10 := Lib.hid ((E9.out.below b10).more b10.size)
  have q10 := below_step q9 b10
  clear b10 T9 L9 S9 E9 q9
  go_wp2_with fail
  trace "10"
  have hb0 : w.heap.size < w10.heap.size := by
    obtain h | ⟨b, o, h, hb, _⟩ := L10.out
    · cases h
    · cases h; exact hb
  refine (root_any _ _ 1 [⟨#[97]⟩] _ rfl (by decide) (by decide) T10.out (strs_take (k := 1) hb0 (strs_cell L10.out)) (fun s hs => hz s (by simp at hs; simp [hs]))).mono ?_
  rw [F.r1]; rintro e w11 ⟨rfl, b11⟩
  have T11 := Lib.hid (T10.out.below b11)
  have L11 := Lib.hid ((L10.out.below b11).more b11.size)
  have E11 := Lib.hid ((E10.out.below b11).more b11.size)
  have q11 := below_step q10 b11
  have hz11 := b11.size
  clear b11 T10 L10 E10 q10
  go_wp2_with fail
  trace "11"
  refine (verifyE_any R1 R (by rw [F.sR1]; decide) (by rw [F.sR]; decide) 3 1 (by decide) (by decide) (by decide) (by decide) _ _ 2 [X, Y] _ rfl n2 m2 T11.out E11.out zX).mono ?_
  rw [F.va]; rintro e w12 ⟨rfl, b12⟩
  have T12 := Lib.hid (T11.out.below b12)
  have L12 := Lib.hid ((L11.out.below b12).more b12.size)
  have E12 := Lib.hid ((E11.out.below b12).more b12.size)
  have q12 := below_step q11 b12
  clear T11 L11 E11 q11
  go_wp2_with fail
  trace "12"
  refine (root_any _ _ 2 [⟨#[97]⟩, ⟨#[98]⟩] _ rfl (by decide) (by decide) T12.out (strs_take (k := 2) (Nat.lt_of_lt_of_le hb0 (Nat.le_trans (by assumption) b12.size)) (strs_cell L12.out)) (fun s hs => hz s (by simp at hs; rcases hs with h | h <;> simp [h]))).mono ?_
  rw [F.r2]; rintro e w13 ⟨rfl, b13⟩
  have T13 := Lib.hid (T12.out.below b13)
  have E13 := Lib.hid ((E12.out.below b13).more b13.size)
  have q13 := below_step q12 b13
  clear b12 b13 T12 L12 E12 q12
  go_wp2_with fail
  trace "13"
  refine (verifyE_any R2 R (by rw [F.sR2]; decide) (by rw [F.sR]; decide) 3 1 (by decide) (by decide) (by decide) (by decide) _ _ 2 [X, Y] _ rfl n2 m2 T13.out E13.out zX).mono ?_
  rw [F.vb]; rintro e w14 ⟨rfl, b14⟩
  go_wp2_with fail
  trace "14"
  go_ret
  exact ⟨rfl, below_step q13 b14⟩
end Go.Proofs.YtjcamhekhfokhaaDoor
