/- dialtonelaw02.hex. -/
import Derived.Test.YtjcamhekhfokhaaDoorFew
namespace Go.Proofs.YtjcamhekhfokhaaDoor
open Go.RowKit

def hexD : List UInt8 := [48, 49, 50, 51, 52, 53, 54, 55, 56, 57, 97, 98, 99, 100, 101, 102]
def digitL (q : Nat) : UInt8 := hexD.getD q 0
def hexL : List UInt8 → List UInt8
  | [] => []
  | b :: l => digitL (b.toNat / 16) :: digitL (b.toNat % 16) :: hexL l
theorem hexL_snoc (l : List UInt8) (b : UInt8) : hexL (l ++ [b]) = hexL l ++ [digitL (b.toNat / 16), digitL (b.toNat % 16)] := by
  induction l with
  | nil => rfl
  | cons a l ih => simp [hexL, ih]
theorem hexL_len : ∀ l : List UInt8, (hexL l).length = 2 * l.length
  | [] => rfl
  | b :: l => by simp [hexL, hexL_len l]; omega
theorem digit_ext (q : Nat) (h : q < 16) : ({ data := #[48, 49, 50, 51, 52, 53, 54, 55, 56, 57, 97, 98, 99, 100, 101, 102] } : ByteArray).extract q (q + 1) = ⟨#[digitL q]⟩ := by
  apply ByteArray.ext
  rw [← Array.toList_inj]
  simp only [ByteArray.data_extract, Array.toList_extract, List.extract]
  obtain rfl | rfl | rfl | rfl | rfl | rfl | rfl | rfl | rfl | rfl | rfl | rfl | rfl | rfl | rfl | rfl : q = 0 ∨ q = 1 ∨ q = 2 ∨ q = 3 ∨ q = 4 ∨ q = 5 ∨ q = 6 ∨ q = 7 ∨ q = 8 ∨ q = 9 ∨ q = 10 ∨ q = 11 ∨ q = 12 ∨ q = 13 ∨ q = 14 ∨ q = 15 := by omega
  all_goals rfl

set_option maxRecDepth 100000 in
set_option maxHeartbeats 1000000 in
theorem hex_any (s : ByteArray) (hs : s.size ≤ 1000) (w : World) :
    Calls Tryd.prog 39 #[.string s] w fun e w' => e = .returned (.string ⟨(hexL s.data.toList).toArray⟩) ∧ Below w.heap.size w w' := by
  go_enter Tryd.func39, Tryd.ntmps39
  go_wp2
  go_loopw [3, 4] (fun v p wr => ∃ j : Nat, p = .int .i64 j ∧ j ≤ s.size ∧ v = .string ⟨(hexL (s.data.toList.take j)).toArray⟩ ∧ Below w.heap.size w wr) (fun _ p _ => s.size - (intOf p).toNat)
  case atStart => exact ⟨0, rfl, by omega, rfl, Below.refl _ _⟩
  case round =>
    obtain ⟨j, rfl, hj, rfl, hbr⟩ := hrel
    obtain ⟨V, hV⟩ : ∃ V : ByteArray, V = ⟨(hexL (s.data.toList.take j)).toArray⟩ := ⟨_, rfl⟩
    rw [← hV]
    have kV : V.size ≤ 2000 := by rw [hV]; show (hexL _).toArray.size ≤ 2000; rw [List.size_toArray, hexL_len]; simp; omega
    by_cases hlt : j < s.size
    · have hx : s[j].toNat < 256 := s[j].toNat_lt
      have HV := Lib.hid hV; clear hV
      have j0 : (0 : Int) ≤ (j : Int) := by omega
      have j1 : (j : Int) < (s.size : Int) := by omega
      obtain ⟨q1, h1⟩ : ∃ q, q = s[j].toNat / 16 := ⟨_, rfl⟩
      obtain ⟨q2, h2⟩ : ∃ q, q = s[j].toNat % 16 := ⟨_, rfl⟩
      have e1 : (s[j].toNat : Int) / 16 = (q1 : Int) := by omega
      have e2 : (s[j].toNat : Int) % 16 = (q2 : Int) := by omega
      have k1 : (q1 : Int) < 16 := by omega
      have k2 : (q2 : Int) < 16 := by omega
      have w1 : IntKind.u8.wrap ((q1 : Int) + 1) = (q1 : Int) + 1 := by rw [IntKind.wrap_u8']; omega
      have w2 : IntKind.u8.wrap ((q2 : Int) + 1) = (q2 : Int) + 1 := by rw [IntKind.wrap_u8']; omega
      have H1 := Lib.hid h1; have H2 := Lib.hid h2; clear h1 h2
      have w3 : IntKind.u8.wrap (q1 : Int) = (q1 : Int) := by rw [IntKind.wrap_u8']; omega
      have w4 : IntKind.u8.wrap (q2 : Int) = (q2 : Int) := by rw [IntKind.wrap_u8']; omega
      have x1 := digit_ext q1 (by clear w1 w2 w3 w4; omega)
      have x2 := digit_ext q2 (by clear w1 w2 w3 w4; omega)
      go_wp2
      go_quiet (fail)
      go_wp2
      clear w1 w2 w3 w4 e1 e2 x1 x2
      refine ⟨⟨j + 1, by go_num, by omega, ?_, below_drawnN hbr _⟩, by simp [intOf]; omega⟩
      have hjl : j < s.data.toList.length := by simpa using hlt
      rw [List.take_succ_eq_append_getElem hjl, hexL_snoc, HV.out, H1.out, H2.out, ByteArray.mk_append_mk, ByteArray.mk_append_mk]
      congr 2
      simp [List.append_assoc]
      exact ⟨rfl, rfl⟩
    · rw [List.take_of_length_le (by simp; omega)] at hV
      have HV := Lib.hid hV; clear hV
      go_wp2
      go_ret
      exact ⟨by rw [← HV.out]; rfl, hbr⟩
end Go.Proofs.YtjcamhekhfokhaaDoor
