/- The reference implementation of layer 1, further: Int at every offset, String, Sum. -/
import Derived.Test.YtcmeplgkillbdaaDoorRefJ
namespace Go.Proofs.YtcmeplgkillbdaaDoor
open Go.RowKit

set_option maxRecDepth 100000 in
theorem refInt_any (s : ByteArray) (k : Int) (k1 : -9223372036854775808 ≤ k) (k2 : k ≤ 9223372036854775807) (hs : s.size ≤ 9223372036854775807) (w : World) :
    Calls Tryd.prog 16 #[.string s, .int .i64 k] w fun e w' => e = .returned (intV (intS s.data.toList k)) ∧ Below w.heap.size w w' := by
  have hl := len_data s
  by_cases h1 : k < 0
  · have e : intS s.data.toList k = (0, 0, 2) := by rw [intS, if_pos (.inl h1)]
    have HE := Lib.hid e; clear e hl
    go_enter Tryd.func16, Tryd.ntmps16
    go_wp2
    go_ret3
    exact ⟨intV_mk HE.out, Below.refl _ _⟩
  · by_cases h2 : (s.size : Int) < k
    · have e : intS s.data.toList k = (0, 0, 2) := by rw [intS, if_pos (.inr (by omega))]
      have HE := Lib.hid e; clear e hl
      go_enter Tryd.func16, Tryd.ntmps16
      go_wp2
      go_ret3
      exact ⟨intV_mk HE.out, Below.refl _ _⟩
    · obtain ⟨k, rfl⟩ := Int.eq_ofNat_of_zero_le (show 0 ≤ k by omega)
      exact refInt_in s k (by omega) hs w

set_option maxRecDepth 100000 in
set_option maxHeartbeats 1000000 in
theorem refString_any (s : ByteArray) (k : Int) (k1 : -9223372036854775808 ≤ k) (k2 : k ≤ 9223372036854775807) (hs : s.size ≤ 9223372036854775807) (w : World) :
    Calls Tryd.prog 18 #[.string s, .int .i64 k] w fun e w' => e = .returned (strV (stringS s.data.toList k)) ∧ Below w.heap.size w w' := by
  have hl := len_data s
  obtain ⟨n, next, er, hi⟩ : ∃ n next er, intS s.data.toList k = (n, next, er) := ⟨_, _, _, rfl⟩
  have hS := stringS_eq _ _ _ _ _ hi
  have h0 := intS_err s.data.toList k
  rw [hi] at h0
  simp only at h0
  by_cases he : er = 0
  · subst he
    rw [if_pos rfl, hl] at hS
    obtain ⟨b1, b2, b3, b4, b5, b6⟩ := intS_ok hi
    unfold maxInt at b2 b3
    rw [hl] at b5
    have hnx : 0 ≤ next := by omega
    clear h0 b6 b4
    by_cases hn : n < 0 ∨ 65536 < n ∨ (s.size : Int) - next < n
    · rw [if_pos hn] at hS
      have HS := Lib.hid hS; have HI := Lib.hid hi; clear hS hi hl
      rcases hn with hn | hn | hn
      all_goals
        go_enter Tryd.func18, Tryd.ntmps18
        go_wp2_with (go_at_call 16; refine (refInt_any s k k1 k2 hs _).mono ?_; rw [HI.out]; rintro e w' ⟨rfl, hb⟩; dsimp only [intV])
        all_goals go_ret3
        all_goals exact ⟨strV_mk HS.out rfl, hb⟩
    · rw [if_neg hn] at hS
      have hn1 : 0 ≤ n := by omega
      have hn2 : n ≤ 65536 := by omega
      have hn3 : n ≤ (s.size : Int) - next := by omega
      obtain ⟨n, rfl⟩ := Int.eq_ofNat_of_zero_le hn1
      obtain ⟨next, rfl⟩ := Int.eq_ofNat_of_zero_le hnx
      have HS := Lib.hid hS; have HI := Lib.hid hi; clear hS hi hl hn
      go_enter Tryd.func18, Tryd.ntmps18
      go_wp2_with (go_at_call 16; refine (refInt_any s k k1 k2 hs _).mono ?_; rw [HI.out]; rintro e w' ⟨rfl, hb⟩; dsimp only [intV])
      go_ret3
      refine ⟨strV_mk HS.out ?_, hb⟩
      simp [ByteArray.data_extract]
  · rw [if_neg he] at hS
    have HS := Lib.hid hS; have HI := Lib.hid hi; clear hS hi hl h0
    have hb : (er != 0) = true := by rw [bne_iff_ne]; exact he
    go_enter Tryd.func18, Tryd.ntmps18
    go_wp2_with (go_at_call 16; refine (refInt_any s k k1 k2 hs _).mono ?_; rw [HI.out]; rintro e w' ⟨rfl, hb⟩; dsimp only [intV])
    go_ret3
    exact ⟨strV_mk HS.out rfl, hb⟩

def s1N (r : Nat) : Nat := if r % 2 = 1 then r / 2 ^^^ 2197175160 else r / 2
theorem s1N_lt {r : Nat} (h : r < 4294967296) : s1N r < 4294967296 := by
  unfold s1N
  split
  · exact Nat.xor_lt_two_pow (n := 32) (by omega) (by omega)
  · omega
theorem S1_s1N {r : Nat} (h : r < 4294967296) : S1 (BitVec.ofNat 32 r) = BitVec.ofNat 32 (s1N r) := by
  apply BitVec.eq_of_toNat_eq
  rw [S1_nat r h, BitVec.toNat_ofNat, Nat.mod_eq_of_lt (s1N_lt h)]; rfl

set_option maxRecDepth 100000 in
set_option maxHeartbeats 1000000 in
theorem refSum_any (s : ByteArray) (hs : s.size ≤ 9223372036854775807) (w : World) :
    Calls Tryd.prog 22 #[.string s] w fun e w' => e = .returned (.int .i64 (crc s.data.toList)) ∧ w = w' := by
  go_enter Tryd.func22, Tryd.ntmps22
  go_wp2
  go_loop [3, 4] (fun r p => ∃ R i : Nat, r = .int .u32 R ∧ p = .int .i64 i ∧ i ≤ s.size ∧ R < 4294967296 ∧ R = (crcR (s.data.toList.take i)).toNat)
    (fun _ p => s.size - (intOf p).toNat)
  case atStart => exact ⟨4294967295, 0, rfl, rfl, by omega, by omega, rfl⟩
  case round =>
    obtain ⟨R, i, rfl, rfl, hi, hR, hu⟩ := hrel
    by_cases hend : i < s.size
    · obtain ⟨X, hX⟩ : ∃ X, X = R ^^^ s[i].toNat := ⟨_, rfl⟩
      have hX32 : X < 4294967296 := by rw [hX]; exact Nat.xor_lt_two_pow (n := 32) hR (by have := s[i].toNat_lt; omega)
      have hb : s[i].toNat < 256 := s[i].toNat_lt
      have e1 : bits .xor .u32 (R : Int) (s[i].toNat : Int) = (X : Int) := u32_xor_eq hR (by omega) hX
      have hfin : crcR (s.data.toList.take (i + 1)) = S1n 8 (BitVec.ofNat 32 X) := by
        have hi' : i < s.data.toList.length := by rw [len_data]; exact hend
        rw [List.take_succ_eq_append_getElem hi', crcR_snoc]
        have hb : s.data.toList[i] = s[i] := rfl
        have e : crcR (s.data.toList.take i) ^^^ BitVec.ofNat 32 s[i].toNat = BitVec.ofNat 32 X := by
          apply BitVec.eq_of_toNat_eq
          rw [BitVec.toNat_xor, BitVec.toNat_ofNat, BitVec.toNat_ofNat, Nat.mod_eq_of_lt hX32, Nat.mod_eq_of_lt (by omega), ← hu, hX]
        rw [hb, stepB, e]; rfl
      have HF := Lib.hid hfin; clear hfin hu hX
      go_wp2_with fail
      go_loop [3, 5] (fun r p => ∃ Y j : Nat, r = .int .u32 Y ∧ p = .int .i64 j ∧ j ≤ 8 ∧ Y < 4294967296 ∧ S1n (8 - j) (BitVec.ofNat 32 Y) = S1n 8 (BitVec.ofNat 32 X))
        (fun _ p => 8 - (intOf p).toNat)
      case atStart => exact ⟨X, 0, rfl, rfl, by omega, hX32, rfl⟩
      case round =>
        obtain ⟨Y, j, rfl, rfl, hj, hY, hs1⟩ := hrel
        by_cases hj8 : j < 8
        · have hs2 : S1n (8 - (j + 1)) (BitVec.ofNat 32 (s1N Y)) = S1n 8 (BitVec.ofNat 32 X) := by
            rw [← hs1, show 8 - j = (8 - (j + 1)) + 1 by omega, S1n, S1_s1N hY]
          have hlt := s1N_lt hY
          have H2 := Lib.hid hs2; clear hs1 hs2
          by_cases hp : Y % 2 = 1
          · have e2 : bits .xor .u32 ((Y : Int) / 2) 2197175160 = ((s1N Y : Nat) : Int) := by
              have := u32_xor_eq (a := Y / 2) (b := 2197175160) (x := s1N Y) (by omega) (by omega) (by rw [s1N, if_pos hp])
              simpa using this
            have t1 : ((Y : Int) % 2 == 1) = true := by simp; omega
            clear hp
            go_wp2_with fail
            go_round
            case rel => exact ⟨s1N Y, j + 1, rfl, by go_num, by omega, hlt, H2.out⟩
            case measure => simp [intOf]; omega
          · have e3 : ((Y : Int) / 2) = ((s1N Y : Nat) : Int) := by rw [s1N, if_neg hp]; omega
            have t1 : ((Y : Int) % 2 == 1) = false := by simp; omega
            clear hp
            have E3 := Lib.hid e3; clear e3
            go_wp2_with fail
            go_round
            case rel => exact ⟨s1N Y, j + 1, by rw [E3.out], by go_num, by omega, hlt, H2.out⟩
            case measure => simp [intOf]; omega
        · obtain rfl : j = 8 := by omega
          have hs2 : BitVec.ofNat 32 Y = S1n 8 (BitVec.ofNat 32 X) := hs1
          have hf : Y = (crcR (s.data.toList.take (i + 1))).toNat := by rw [HF.out, ← hs2, BitVec.toNat_ofNat, Nat.mod_eq_of_lt hY]
          have HY := Lib.hid hf; clear hs1 hs2 hf
          go_wp2_with fail
          go_round
          case rel => exact ⟨Y, i + 1, rfl, by go_num, by omega, hY, HY.out⟩
          case measure => simp [intOf]; omega
    · have hn := crc_nat s.data.toList
      rw [List.take_of_length_le (by rw [len_data]; omega)] at hu
      rw [← hu] at hn
      have HN := Lib.hid hn; clear hn hu
      have e4 := u32_not R hR
      go_wp2
      go_ret
      exact ⟨ret_int (by rw [HN.out, IntWalk.wrap64_in _ (by omega)]), rfl⟩
end Go.Proofs.YtcmeplgkillbdaaDoor
