/- The reference implementation of layer 1 returns what the mathematics' text says. -/
import Derived.Test.YtcmeplgkillbdaaDoorRefI
namespace Go.Proofs.YtcmeplgkillbdaaDoor
open Go.RowKit

set_option maxRecDepth 100000 in
theorem refPut_any (c : Int) (c1 : -9223372036854775808 ≤ c) (c2 : c ≤ 9223372036854775807) (w : World) :
    Calls Tryd.prog 13 #[.int .i64 c] w fun e w' => e = .returned (.tuple #[.string ⟨(putIntS c).1.toArray⟩, .int .i64 (putIntS c).2]) ∧ Below w.heap.size w w' := by
  by_cases h1 : c < -4611686018427387903
  · have hp : putIntS c = ([], 10) := by rw [putIntS, maxInt, if_pos (by omega)]
    rw [hp]
    go_enter Tryd.func13, Tryd.ntmps13
    go_wp2
    go_ret2
    exact ⟨rfl, Below.refl _ _⟩
  · by_cases h2 : 4611686018427387903 < c
    · have hp : putIntS c = ([], 10) := by rw [putIntS, maxInt, if_pos (by omega)]
      rw [hp]
      go_enter Tryd.func13, Tryd.ntmps13
      go_wp2
      go_ret2
      exact ⟨rfl, Below.refl _ _⟩
    · rw [putInt_in ⟨by omega, by omega⟩]
      exact refPut_in c (by omega) (by omega) w

set_option maxRecDepth 100000 in
theorem refPutString_any (s : ByteArray) (hs : s.size ≤ 9223372036854775807) (w : World) :
    Calls Tryd.prog 20 #[.string s] w fun e w' => e = .returned (.tuple #[.string ⟨(putStringS s.data.toList).1.toArray⟩, .int .i64 (putStringS s.data.toList).2]) ∧ Below w.heap.size w w' := by
  have hl := len_data s
  by_cases h : 65536 < s.size
  · have hp : putStringS s.data.toList = ([], 10) := by rw [putStringS, if_pos (by omega)]
    rw [hp]
    clear hp hl
    go_enter Tryd.func20, Tryd.ntmps20
    go_wp2
    go_ret2
    exact ⟨rfl, Below.refl _ _⟩
  · rw [putString_in (by omega)]
    clear hl
    have hlen := enc_len s.size (by unfold maxInt; omega) (by unfold maxInt; omega)
    go_enter Tryd.func20, Tryd.ntmps20
    go_wp2_with (go_at_call 13; refine (refPut_in _ (by omega) (by omega) _).mono ?_; rintro e w' ⟨rfl, hb⟩)
    go_ret2
    exact ⟨ret_str2 (by rw [← ByteArray.mk_append_mk]), hb⟩

theorem add_shift (z b i : Nat) (hz : z < 128 ^ i) (hi : i ≤ 8) : ((z : Int) + IntKind.u64.wrap ((b : Int) % 128 * 2 ^ (7 * i))) = ((z + b % 128 * 2 ^ (7 * i) : Nat) : Int) ∧ z + b % 128 * 2 ^ (7 * i) < 9223372036854775808 := by
  have e : (128 : Nat) ^ i = 2 ^ (7 * i) := by rw [Nat.pow_mul]
  have hp : 2 ^ (7 * i) ≤ 72057594037927936 := by
    have := Nat.pow_le_pow_right (n := 2) (by omega) (show 7 * i ≤ 56 by omega)
    simpa using this
  have hb : b % 128 < 128 := Nat.mod_lt _ (by omega)
  have hm : b % 128 * 2 ^ (7 * i) ≤ 127 * 72057594037927936 := Nat.mul_le_mul (by omega) hp
  have hc : ((b : Int) % 128 * 2 ^ (7 * i)) = ((b % 128 * 2 ^ (7 * i) : Nat) : Int) := by
    rw [Int.natCast_mul, Int.natCast_pow]; rfl
  rw [hc, IntWalk.u64_in _ (by omega)]
  omega

def intR (k : Int) : Option (Nat × Nat) → Int × Int × Int
  | none => (0, 0, 10)
  | some (z, j) => if 9223372036854775806 < z then (0, 0, 10) else (unz z, k + j, 0)
theorem intR_eq (s : ByteArray) (k : Nat) (hk : k ≤ s.size) : intS s.data.toList k = intR k (ung 9 0 0 (s.data.toList.drop k)) := by
  rw [intS, len_data, if_neg (by omega), Int.toNat_natCast]
  cases ung 9 0 0 (s.data.toList.drop k) <;> rfl

set_option maxRecDepth 100000 in
set_option maxHeartbeats 2000000 in
theorem refInt_in (s : ByteArray) (k : Nat) (hk : k ≤ s.size) (hs : s.size ≤ 9223372036854775807) (w : World) :
    Calls Tryd.prog 16 #[.string s, .int .i64 k] w fun e w' => e = .returned (intV (intS s.data.toList k)) ∧ Below w.heap.size w w' := by
  obtain ⟨R, hR⟩ : ∃ R, R = ung 9 0 0 (s.data.toList.drop k) := ⟨_, rfl⟩
  have e0 := intR_eq s k hk
  rw [← hR] at e0
  obtain ⟨A, hA⟩ : ∃ A, A = intS s.data.toList k := ⟨_, rfl⟩
  rw [← hA] at e0 ⊢
  have HE := Lib.hid e0; have HR := Lib.hid hR; clear hR e0 hA
  have g1 : decide (s.size < k) = false := by simp; omega
  have g2 : decide ((k : Int) < 0) = false := by simp
  go_enter Tryd.func16, Tryd.ntmps16
  go_wp2
  go_loop [7, 8] (fun v p => ∃ z i : Nat, v = .int .u64 z ∧ p = .int .i64 i ∧ i ≤ 9 ∧ k + i ≤ s.size ∧ z < 128 ^ i ∧ R = ung (9 - i) i z (s.data.toList.drop (k + i)))
     (fun _ p => 9 - (intOf p).toNat)
  case atStart => exact ⟨0, 0, rfl, rfl, by omega, by omega, by decide, HR.out⟩
  case round =>
    obtain ⟨z, i, rfl, rfl, hi, hki, hz, hu⟩ := hrel
    by_cases hgo : i < 9 ∧ k + i < s.size
    · obtain ⟨h9, hend⟩ := hgo
      have hstep : R = (if s[k + i].toNat < 128 then (if s[k + i].toNat = 0 ∧ 0 < i then none else some (z + s[k + i].toNat % 128 * 2 ^ (7 * i), i + 1))
          else ung (9 - (i + 1)) (i + 1) (z + s[k + i].toNat % 128 * 2 ^ (7 * i)) (s.data.toList.drop (k + (i + 1)))) := by
        rw [hu, getByte s _ hend, show 9 - i = (9 - (i + 1)) + 1 by omega]; rfl
      obtain ⟨hadd, hadd2⟩ := add_shift z s[k + i].toNat i hz (by omega)
      have hz' : z + s[k + i].toNat % 128 * 2 ^ (7 * i) < 128 ^ (i + 1) := by
        have e : (128 : Nat) ^ i = 2 ^ (7 * i) := by rw [Nat.pow_mul]
        have hb : s[k + i].toNat % 128 ≤ 127 := by omega
        have hm := Nat.mul_le_mul_right (2 ^ (7 * i)) hb
        rw [Nat.pow_succ, e]; omega
      obtain ⟨y, hy⟩ : ∃ y, y = z + s[k + i].toNat % 128 * 2 ^ (7 * i) := ⟨_, rfl⟩
      rw [← hy] at hadd hadd2 hz' hstep
      have hb256 : s[k + i].toNat < 256 := s[k + i].toNat_lt
      have HU := Lib.hid hstep; have HZ := Lib.hid hz'; clear hu hz hstep hz' hy
      by_cases hb : s[k + i].toNat < 128
      · have e := HU.out
        rw [if_pos (by omega)] at e
        have hun := unz_range (z := y) (by omega)
        have hzu := zig_unz y
        have hiff := ung_iff (s.data.toList.drop k) i y (by omega) (by rw [List.length_drop, len_data]; omega)
        rw [← HR.out] at hiff
        obtain ⟨n, hn⟩ : ∃ n, n = unz y := ⟨_, rfl⟩
        have hnv : n = if y % 2 = 1 then -((y / 2 : Nat) : Int) - 1 else ((y / 2 : Nat) : Int) := hn
        have hmod : ((y : Int) % 2 == 1) = decide (y % 2 = 1) := by
          rw [Bool.eq_iff_iff]; simp; omega
        rw [← hn] at hun hzu
        have hput : putIntS n = if 9223372036854775806 < y then ([], 10) else (leb y, 0) := by
          by_cases hy : 9223372036854775806 < y
          · rw [if_pos hy, putIntS, if_pos (hun.2 hy)]
          · rw [if_neg hy, putIntS, if_neg (fun h => hy (hun.1 h)), enc, hzu]
        have hA2 := HE.out
        have hnb : -4611686018427387904 ≤ n ∧ n ≤ 4611686018427387904 := by rw [hnv]; split <;> omega
        have htk : (s.extract k (k + (i + 1))).data.toList = (s.data.toList.drop k).take (i + 1) := by
          simp [ByteArray.data_extract]
        have hfin : ∃ a b c : Int, A = (a, b, c) ∧ ((9223372036854775806 < y ∧ a = 0 ∧ b = 0 ∧ c = 10) ∨
            (¬ 9223372036854775806 < y ∧ s.extract k (k + i + 1) = ⟨(leb y).toArray⟩ ∧ n = a ∧ b = (k : Int) + i + 1 ∧ c = 0) ∨
            (¬ 9223372036854775806 < y ∧ (leb y == (s.extract k (k + i + 1)).toList) = false ∧ a = 0 ∧ b = 0 ∧ c = 10)) := by
          by_cases hy : 9223372036854775806 < y
          · refine ⟨0, 0, 10, ?_, .inl ⟨hy, rfl, rfl, rfl⟩⟩
            rw [hA2, e]; split <;> simp [intR, hy]
          · by_cases hR : R = some (y, i + 1)
            · refine ⟨n, (k : Int) + i + 1, 0, ?_, .inr (.inl ⟨hy, ?_, rfl, rfl, rfl⟩)⟩
              · rw [hA2, hR]; simp [intR, hy, hn]; omega
              · apply ByteArray.ext
                rw [← Array.toList_inj, Nat.add_assoc, htk, hiff.1 hR]
            · have hR0 : R = none := by
                rw [e] at hR ⊢
                split
                · rfl
                · rename_i h; rw [if_neg h] at hR; exact absurd rfl hR
              refine ⟨0, 0, 10, by rw [hA2, hR0]; rfl, .inr (.inr ⟨hy, ?_, rfl, rfl, rfl⟩)⟩
              rw [beq_eq_false_iff_ne]
              intro h
              rw [ByteArray.toList_eq, Nat.add_assoc, htk] at h
              exact hR (hiff.2 h.symm)
        obtain ⟨a, b, c, hAf, hcase⟩ := hfin
        have HN := Lib.hid hnv; have HM := Lib.hid hmod
        clear e hun hzu hiff hA2 hnv hmod htk hn
        rcases hcase with ⟨hy, rfl, rfl, rfl⟩ | ⟨hy, heq, rfl, rfl, rfl⟩ | ⟨hy, heq, rfl, rfl, rfl⟩
        · rw [if_pos hy] at hput
          have HP := Lib.hid hput; have HA := Lib.hid hAf; clear hput hAf
          by_cases hpar : y % 2 = 1
          · have hm1 : ((y : Int) % 2 == 1) = true := by rw [HM.out]; simpa using hpar
            have hx : -((y : Int) / 2) - 1 = n := by rw [HN.out, if_pos hpar]; omega
            have HX := Lib.hid hx; clear hpar hx
            go_wp2_with fail
            rw [HX.out]
            refine (refPut_any n (by omega) (by omega) _).mono ?_
            rw [HP.out]
            rintro e w1 ⟨rfl, b1⟩
            go_wp2
            go_ret3
            exact ⟨intV_mk HA.out, b1⟩
          · have hm1 : ((y : Int) % 2 == 1) = false := by rw [HM.out]; simpa using hpar
            have hx : ((y : Int) / 2) = n := by rw [HN.out, if_neg hpar]; omega
            have HX := Lib.hid hx; clear hpar hx
            go_wp2_with fail
            rw [HX.out]
            refine (refPut_any n (by omega) (by omega) _).mono ?_
            rw [HP.out]
            rintro e w1 ⟨rfl, b1⟩
            go_wp2
            go_ret3
            exact ⟨intV_mk HA.out, b1⟩
        · rw [if_neg hy] at hput
          have HP := Lib.hid hput; have HA := Lib.hid hAf; clear hput hAf
          by_cases hpar : y % 2 = 1
          · have hm1 : ((y : Int) % 2 == 1) = true := by rw [HM.out]; simpa using hpar
            have hx : -((y : Int) / 2) - 1 = n := by rw [HN.out, if_pos hpar]; omega
            have HX := Lib.hid hx; clear hpar hx
            go_wp2_with fail
            rw [HX.out]
            refine (refPut_any n (by omega) (by omega) _).mono ?_
            rw [HP.out]
            rintro e w1 ⟨rfl, b1⟩
            go_wp2
            go_ret3
            exact ⟨intV_mk HA.out, b1⟩
          · have hm1 : ((y : Int) % 2 == 1) = false := by rw [HM.out]; simpa using hpar
            have hx : ((y : Int) / 2) = n := by rw [HN.out, if_neg hpar]; omega
            have HX := Lib.hid hx; clear hpar hx
            go_wp2_with fail
            rw [HX.out]
            refine (refPut_any n (by omega) (by omega) _).mono ?_
            rw [HP.out]
            rintro e w1 ⟨rfl, b1⟩
            go_wp2
            go_ret3
            exact ⟨intV_mk HA.out, b1⟩
        · rw [if_neg hy] at hput
          have HP := Lib.hid hput; have HA := Lib.hid hAf; clear hput hAf
          by_cases hpar : y % 2 = 1
          · have hm1 : ((y : Int) % 2 == 1) = true := by rw [HM.out]; simpa using hpar
            have hx : -((y : Int) / 2) - 1 = n := by rw [HN.out, if_pos hpar]; omega
            have HX := Lib.hid hx; clear hpar hx
            go_wp2_with fail
            rw [HX.out]
            refine (refPut_any n (by omega) (by omega) _).mono ?_
            rw [HP.out]
            rintro e w1 ⟨rfl, b1⟩
            go_wp2
            go_ret3
            exact ⟨intV_mk HA.out, b1⟩
          · have hm1 : ((y : Int) % 2 == 1) = false := by rw [HM.out]; simpa using hpar
            have hx : ((y : Int) / 2) = n := by rw [HN.out, if_neg hpar]; omega
            have HX := Lib.hid hx; clear hpar hx
            go_wp2_with fail
            rw [HX.out]
            refine (refPut_any n (by omega) (by omega) _).mono ?_
            rw [HP.out]
            rintro e w1 ⟨rfl, b1⟩
            go_wp2
            go_ret3
            exact ⟨intV_mk HA.out, b1⟩
      · have e := HU.out
        rw [if_neg (by omega)] at e
        have E := Lib.hid e; clear e
        go_wp2
        go_round
        case rel => exact ⟨y, i + 1, rfl, by go_num, by omega, by omega, HZ.out, E.out⟩
        case measure => simp [intOf]; omega
    · have e : R = none := by
        rw [hu]
        by_cases h9 : i < 9
        · rw [List.drop_of_length_le (by rw [len_data]; omega), ung_end]
        · rw [show 9 - i = 0 by omega]; rfl
      have e2 := HE.out
      rw [e] at e2
      have HA := Lib.hid e2; clear e e2 hu hz
      by_cases h9 : i < 9
      · have hend : s.size ≤ k + i := by omega
        clear hgo
        go_wp2
        go_ret3
        exact ⟨intV_mk HA.out, Below.refl _ _⟩
      · clear hgo
        go_wp2
        go_ret3
        exact ⟨intV_mk HA.out, Below.refl _ _⟩
end Go.Proofs.YtcmeplgkillbdaaDoor
