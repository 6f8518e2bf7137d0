/- wire.Sum: returns the checksum of the mathematics' text, where the table holds its 16 numbers. -/
import Derived.Test.YtcmeplgkillbdaaDoorInts
import Derived.Test.YtcmeplgkillbdaaDoorCrc
namespace Go.Proofs.YtcmeplgkillbdaaDoor
open Go.RowKit

/-- The table's cells. -/
def Tab (w : World) : Prop := ∀ i, i < 16 → w.cell? ⟨0, i, none⟩ = some (.int .u32 (tabN i : Int))
theorem Tab.below {w w' : World} (h : Tab w) (hb : Below w.heap.size w w') (hs : 0 < w.heap.size) : Tab w' := fun i hi => (hb.cell (p := ⟨0, i, none⟩) hs).trans (h i hi)

theorem u32_xor_eq {a b x : Nat} (ha : a < 4294967296) (hb : b < 4294967296) (h : x = a ^^^ b) : bits .xor .u32 (a : Int) (b : Int) = (x : Int) := by rw [h]; exact u32_xor_nat a b ha hb

theorem u32_not (R : Nat) (hR : R < 4294967296) : bits .xor .u32 IntKind.u32.max (R : Int) = 4294967295 - (R : Int) := by
  have h := u32_xor_nat 4294967295 R (by omega) hR
  have e : 4294967295 ^^^ R = 4294967295 - R := by
    have h1 : (~~~ (BitVec.ofNat 32 R)).toNat = 4294967295 - R := by rw [BitVec.toNat_not, BitVec.toNat_ofNat, Nat.mod_eq_of_lt hR]
    have h2 : (BitVec.allOnes 32 ^^^ BitVec.ofNat 32 R).toNat = 4294967295 ^^^ R := by rw [BitVec.toNat_xor, BitVec.toNat_ofNat, Nat.mod_eq_of_lt hR]; rfl
    rw [BitVec.allOnes_xor, h1] at h2
    exact h2.symm
  rw [e] at h
  have h3 : ((4294967295 - R : Nat) : Int) = 4294967295 - (R : Int) := by omega
  rw [← h3]; exact h

set_option maxRecDepth 100000 in
theorem sum_any (s : ByteArray) (hs : s.size ≤ 9223372036854775807) (w : World) (ht : Tab w) :
    Calls Tryd.prog 21 #[.string s] w fun e w' => e = .returned (.int .i64 (crc s.data.toList)) ∧ w = w' := by
  have HT := Lib.hid ht; clear ht
  go_enter Tryd.func21, Tryd.ntmps21
  go_wp2
  go_loop [3, 4] (fun r p => ∃ R i : Nat, r = .int .u32 R ∧ p = .int .i64 i ∧ i ≤ s.size ∧ R < 4294967296 ∧ R = (crcR (s.data.toList.take i)).toNat)
    (fun _ p => s.size - (intOf p).toNat)
  case atStart => exact ⟨4294967295, 0, rfl, rfl, by omega, by omega, rfl⟩
  case round =>
    obtain ⟨R, i, rfl, rfl, hi, hR, hu⟩ := hrel
    by_cases hend : i < s.size
    · obtain ⟨X, hX⟩ : ∃ X, X = R ^^^ s[i].toNat := ⟨_, rfl⟩
      have hX32 : X < 4294967296 := by rw [hX]; exact Nat.xor_lt_two_pow (n := 32) hR (by have := s[i].toNat_lt; omega)
      obtain ⟨Y, hY⟩ : ∃ Y, Y = X / 16 ^^^ tabN (X % 16) := ⟨_, rfl⟩
      have hY32 : Y < 4294967296 := by rw [hY]; exact Nat.xor_lt_two_pow (n := 32) (by omega) (tabN_lt _ (by omega))
      obtain ⟨Z, hZ⟩ : ∃ Z, Z = Y / 16 ^^^ tabN (Y % 16) := ⟨_, rfl⟩
      have hZ32 : Z < 4294967296 := by rw [hZ]; exact Nat.xor_lt_two_pow (n := 32) (by omega) (tabN_lt _ (by omega))
      have hb : s[i].toNat < 256 := s[i].toNat_lt
      have e1 : bits .xor .u32 (R : Int) (s[i].toNat : Int) = (X : Int) := u32_xor_eq hR (by omega) hX
      have e2 : bits .xor .u32 ((X : Int) / 16) (tabN (X % 16) : Int) = (Y : Int) := by have := u32_xor_eq (a := X / 16) (by omega) (tabN_lt (X % 16) (by omega)) hY; simpa using this
      have e3 : bits .xor .u32 ((Y : Int) / 16) (tabN (Y % 16) : Int) = (Z : Int) := by have := u32_xor_eq (a := Y / 16) (by omega) (tabN_lt (Y % 16) (by omega)) hZ; simpa using this
      have c1 := HT.out (X % 16) (by omega)
      have c2 := HT.out (Y % 16) (by omega)
      have hfin : Z = (crcR (s.data.toList.take (i + 1))).toNat := by
        have hi' : i < s.data.toList.length := by rw [len_data]; exact hend
        rw [List.take_succ_eq_append_getElem hi']
        have hb : s.data.toList[i] = s[i] := rfl
        rw [hb, crcR_snoc, stepB_nat, ← hu, ← hX, ← hY, hZ]
      have HF := Lib.hid hfin; clear hfin hu hX hY hZ
      go_wp2
      go_round
      case rel => exact ⟨Z, i + 1, rfl, by go_num, by omega, hZ32, HF.out⟩
      case measure => simp [intOf]; omega
    · have hn := crc_nat s.data.toList
      rw [List.take_of_length_le (by rw [len_data]; omega)] at hu
      rw [← hu] at hn
      have HN := Lib.hid hn; clear hn hu
      have e4 := u32_not R hR
      go_wp2
      go_ret
      exact ⟨ret_int (by rw [HN.out, IntWalk.wrap64_in _ (by omega)]), rfl⟩
end Go.Proofs.YtcmeplgkillbdaaDoor
