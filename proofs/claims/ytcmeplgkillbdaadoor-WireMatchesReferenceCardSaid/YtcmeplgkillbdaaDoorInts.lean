/- wire.PutInt, wire.ungroup, wire.Int, wire.PutString, wire.String: each returns what the plain functions of the mathematics' text say. -/
import Derived.Laws.IdiomStrings
import Derived.Test.YtcmeplgkillbdaaDoorEnc
namespace Go.Proofs.YtcmeplgkillbdaaDoor
open Go.RowKit

def str (l : List UInt8) : Value := .string ⟨l.toArray⟩
theorem encode_any (c : Int) (h1 : -4611686018427387903 ≤ c) (h2 : c ≤ 4611686018427387903) (w : World) :
    Calls Tryd.prog 23 #[.int .i64 c] w fun e w' => e = .returned (.string ⟨(enc c).toArray⟩) ∧ Below w.heap.size w w' :=
  (callsIn_wide (n := 3)).1 (encode_in Fence.wide 3 trivial trivial trivial trivial rfl (by omega) c h1 h2 w (fun w => callsIn_wide.2 (fold_any c w h1 h2)))

theorem putInt_any (c : Int) (c1 : -9223372036854775808 ≤ c) (c2 : c ≤ 9223372036854775807) (w : World) :
    Calls Tryd.prog 12 #[.int .i64 c] w fun e w' => e = .returned (.tuple #[.string ⟨(putIntS c).1.toArray⟩, .int .i64 (putIntS c).2]) ∧ Below w.heap.size w w' := by
  by_cases h1 : c < -4611686018427387903
  · have hp : putIntS c = ([], 10) := by rw [putIntS, maxInt, if_pos (by omega)]
    rw [hp]
    go_enter Tryd.func12, Tryd.ntmps12
    go_wp2
    go_ret2
    exact ⟨rfl, Below.refl _ _⟩
  · by_cases h2 : 4611686018427387903 < c
    · have hp : putIntS c = ([], 10) := by rw [putIntS, maxInt, if_pos (by omega)]
      rw [hp]
      go_enter Tryd.func12, Tryd.ntmps12
      go_wp2
      go_ret2
      exact ⟨rfl, Below.refl _ _⟩
    · have hp : putIntS c = (enc c, 0) := by rw [putIntS, maxInt, if_neg (by omega)]
      rw [hp]
      clear hp
      go_enter Tryd.func12, Tryd.ntmps12
      go_wp2_with (go_at_call 23; refine (encode_any _ (by omega) (by omega) _).mono ?_; rintro e w' ⟨rfl, hb⟩)
      go_ret2
      exact ⟨rfl, hb⟩

theorem len_data (s : ByteArray) : s.data.toList.length = s.size := Array.length_toList
theorem size_arr (l : List UInt8) : (⟨l.toArray⟩ : ByteArray).size = l.length := by simp [ByteArray.size]
theorem ret_str2 {a b : ByteArray} {k : IntKind} {n : Int} (h : a = b) : Ending.returned (.tuple #[.string a, .int k n]) = .returned (.tuple #[.string b, .int k n]) := by rw [h]
set_option maxRecDepth 100000 in
theorem putString_any (s : ByteArray) (hs : s.size ≤ 9223372036854775807) (w : World) :
    Calls Tryd.prog 19 #[.string s] w fun e w' => e = .returned (.tuple #[.string ⟨(putStringS s.data.toList).1.toArray⟩, .int .i64 (putStringS s.data.toList).2]) ∧ Below w.heap.size w w' := by
  have hl := len_data s
  by_cases h : 65536 < s.size
  · have hp : putStringS s.data.toList = ([], 10) := by rw [putStringS, if_pos (by omega)]
    rw [hp]
    clear hp hl
    go_enter Tryd.func19, Tryd.ntmps19
    go_wp2
    go_ret2
    exact ⟨rfl, Below.refl _ _⟩
  · have hp : putStringS s.data.toList = (enc s.size ++ s.data.toList, 0) := by rw [putStringS, if_neg (by omega), hl]
    rw [hp]
    clear hp hl
    have hlen := enc_len s.size (by unfold maxInt; omega) (by unfold maxInt; omega)
    go_enter Tryd.func19, Tryd.ntmps19
    go_wp2_with (go_at_call 23; refine (encode_any _ (by omega) (by omega) _).mono ?_; rintro e w' ⟨rfl, hb⟩)
    go_ret2
    exact ⟨ret_str2 (by rw [← ByteArray.mk_append_mk]), hb⟩

theorem getByte (s : ByteArray) (k : Nat) (h : k < s.size) : s.data.toList.drop k = s[k] :: s.data.toList.drop (k + 1) := by
  have : k < s.data.toList.length := by rw [len_data]; exact h
  rw [List.drop_eq_getElem_cons this]; rfl

theorem or_shift (z b i : Nat) (hz : z < 128 ^ i) (hi : i ≤ 8) : bits .or .u64 (z : Int) (IntKind.u64.wrap ((b : Int) % 128 * 2 ^ (7 * i))) = ((z + b % 128 * 2 ^ (7 * i) : Nat) : Int) := by
  have e : (128 : Nat) ^ i = 2 ^ (7 * i) := by rw [Nat.pow_mul]
  have hp : 2 ^ (7 * i) ≤ 72057594037927936 := by
    have := Nat.pow_le_pow_right (n := 2) (by omega) (show 7 * i ≤ 56 by omega)
    simpa using this
  have hb : b % 128 < 128 := Nat.mod_lt _ (by omega)
  have hm : b % 128 * 2 ^ (7 * i) ≤ 127 * 72057594037927936 := Nat.mul_le_mul (by omega) hp
  have hc : ((b : Int) % 128 * 2 ^ (7 * i)) = ((b % 128 * 2 ^ (7 * i) : Nat) : Int) := by
    rw [Int.natCast_mul, Int.natCast_pow]; rfl
  rw [hc, IntWalk.u64_in _ (by omega), u64_or_nat _ _ (by omega) (by omega), Nat.or_comm]
  have := Nat.two_pow_add_eq_or_of_lt (i := 7 * i) (b := z) (by omega) (b % 128)
  rw [Nat.mul_comm] at this
  rw [← this, Nat.add_comm]

/-- What ungroup hands back. -/
def ungV (k : Nat) : Option (Nat × Nat) → Value
  | none => .tuple #[.int .u64 0, .int .i64 0, .bool false]
  | some (z, j) => .tuple #[.int .u64 z, .int .i64 ((k : Int) + j), .bool true]
theorem ung_end (f i z : Nat) : ung f i z [] = none := by cases f <;> rfl
theorem ungV_some {k z j : Nat} {z' n' : Int} (h1 : z' = z) (h2 : n' = (k : Int) + j) : Ending.returned (.tuple #[.int .u64 z', .int .i64 n', .bool true]) = .returned (ungV k (some (z, j))) := by rw [h1, h2]; rfl

set_option maxRecDepth 100000 in
set_option maxHeartbeats 400000 in
theorem ungroup_any (s : ByteArray) (k : Nat) (hk : k ≤ s.size) (hs : s.size ≤ 9223372036854775807) (w : World) :
    Calls Tryd.prog 25 #[.string s, .int .i64 k] w fun e w' => e = .returned (ungV k (ung 9 0 0 (s.data.toList.drop k))) ∧ w = w' := by
  obtain ⟨R, hR⟩ : ∃ R, R = ung 9 0 0 (s.data.toList.drop k) := ⟨_, rfl⟩
  rw [← hR]
  have HR := Lib.hid hR; clear hR
  go_enter Tryd.func25, Tryd.ntmps25
  go_wp2
  go_loop [7, 8] (fun v p => ∃ z i : Nat, v = .int .u64 z ∧ p = .int .i64 i ∧ i ≤ 9 ∧ k + i ≤ s.size ∧ z < 128 ^ i ∧ R = ung (9 - i) i z (s.data.toList.drop (k + i)))
     (fun _ p => 9 - (intOf p).toNat)
  case atStart => exact ⟨0, 0, rfl, rfl, by omega, by omega, by decide, HR.out⟩
  case round =>
    obtain ⟨z, i, rfl, rfl, hi, hki, hz, hu⟩ := hrel
    by_cases hgo : i < 9 ∧ k + i < s.size
    · obtain ⟨h9, hend⟩ := hgo
      have hstep : R = (if s[k + i].toNat < 128 then (if s[k + i].toNat = 0 ∧ 0 < i then none else some (z + s[k + i].toNat % 128 * 2 ^ (7 * i), i + 1))
          else ung (9 - (i + 1)) (i + 1) (z + s[k + i].toNat % 128 * 2 ^ (7 * i)) (s.data.toList.drop (k + (i + 1)))) := by
        rw [hu, getByte s _ hend, show 9 - i = (9 - (i + 1)) + 1 by omega]; rfl
      have hor := or_shift z s[k + i].toNat i hz (by omega)
      have hz' : z + s[k + i].toNat % 128 * 2 ^ (7 * i) < 128 ^ (i + 1) := by
        have e : (128 : Nat) ^ i = 2 ^ (7 * i) := by rw [Nat.pow_mul]
        have hb : s[k + i].toNat % 128 ≤ 127 := by omega
        have hm := Nat.mul_le_mul_right (2 ^ (7 * i)) hb
        rw [Nat.pow_succ, e]; omega
      have HU := Lib.hid hstep; have HZ := Lib.hid hz'; have HO := Lib.hid hor; clear hu hz hstep hz' hor
      go_wp2
      · have h0 : s[k + i].toNat = 0 := by assumption
        have h1 : 0 < i := by assumption
        have e := HU.out
        rw [if_pos (by omega), if_pos ⟨h0, h1⟩] at e
        go_ret3
        exact ⟨by rw [e]; rfl, rfl⟩
      · have h0 : s[k + i].toNat = 0 := by assumption
        have h1 : ¬ 0 < i := by assumption
        have e := HU.out
        rw [if_pos (by omega), if_neg (by omega)] at e
        go_ret3
        exact ⟨by rw [e]; exact ungV_some (by simpa [h0] using HO.out) (by omega), rfl⟩
      · have h0 : ¬ s[k + i].toNat = 0 := by assumption
        have hb : (s[k + i].toNat : Int) < 128 := by assumption
        have e := HU.out
        rw [if_pos (by omega), if_neg (by omega)] at e
        go_ret3
        exact ⟨by rw [e]; exact ungV_some HO.out (by omega), rfl⟩
      · have hb : (128 : Int) ≤ (s[k + i].toNat : Int) := by assumption
        have e := HU.out
        rw [if_neg (by omega)] at e
        go_round
        case rel => exact ⟨_, i + 1, by rw [HO.out], by go_num, by omega, by omega, HZ.out, e⟩
        case measure => simp [intOf]; omega
    · have e : R = none := by
        rw [hu]
        by_cases h9 : i < 9
        · rw [List.drop_of_length_le (by rw [len_data]; omega), ung_end]
        · rw [show 9 - i = 0 by omega]; rfl
      have HE := Lib.hid e; clear e hu hz
      by_cases h9 : i < 9
      · have hend : s.size ≤ k + i := by omega
        clear hgo
        go_wp2
        go_ret3
        exact ⟨by rw [HE.out]; rfl, rfl⟩
      · clear hgo
        go_wp2
        go_ret3
        exact ⟨by rw [HE.out]; rfl, rfl⟩

/-- What Int hands back. -/
def intV (x : Int × Int × Int) : Value := .tuple #[.int .i64 x.1, .int .i64 x.2.1, .int .i64 x.2.2]
def strV (x : List UInt8 × Int × Int) : Value := .tuple #[.string ⟨x.1.toArray⟩, .int .i64 x.2.1, .int .i64 x.2.2]
theorem intV_mk {x : Int × Int × Int} {a b c : Int} (h : x = (a, b, c)) : Ending.returned (.tuple #[.int .i64 a, .int .i64 b, .int .i64 c]) = .returned (intV x) := by rw [h]; rfl
theorem strV_mk {x : List UInt8 × Int × Int} {s : ByteArray} {l : List UInt8} {b c : Int} (h : x = (l, b, c)) (hs : s.data.toList = l) : Ending.returned (.tuple #[.string s, .int .i64 b, .int .i64 c]) = .returned (strV x) := by
  subst hs; rw [h]; rfl

set_option maxRecDepth 100000 in
theorem int_any (s : ByteArray) (k : Int) (k1 : -9223372036854775808 ≤ k) (k2 : k ≤ 9223372036854775807) (hs : s.size ≤ 9223372036854775807) (w : World) :
    Calls Tryd.prog 15 #[.string s, .int .i64 k] w fun e w' => e = .returned (intV (intS s.data.toList k)) ∧ w = w' := by
  have hl := len_data s
  by_cases h1 : k < 0
  · have e : intS s.data.toList k = (0, 0, 2) := by rw [intS, if_pos (.inl h1)]
    have HE := Lib.hid e; clear e hl
    go_enter Tryd.func15, Tryd.ntmps15
    go_wp2
    go_ret3
    exact ⟨intV_mk HE.out, rfl⟩
  · by_cases h2 : (s.size : Int) < k
    · have e : intS s.data.toList k = (0, 0, 2) := by rw [intS, if_pos (.inr (by omega))]
      have HE := Lib.hid e; clear e hl
      go_enter Tryd.func15, Tryd.ntmps15
      go_wp2
      go_ret3
      exact ⟨intV_mk HE.out, rfl⟩
    · obtain ⟨k, rfl⟩ := Int.eq_ofNat_of_zero_le (show 0 ≤ k by omega)
      have e0 : intS s.data.toList k = match ung 9 0 0 (s.data.toList.drop k) with
          | none => (0, 0, 10)
          | some (z, j) => if 9223372036854775806 < z then (0, 0, 10) else (unz z, k + j, 0) := by
        rw [intS, if_neg (by omega)]; rfl
      have hle : k ≤ s.size := by omega
      cases hu : ung 9 0 0 (s.data.toList.drop k) with
      | none =>
        rw [hu] at e0
        have HE := Lib.hid e0; have HU := Lib.hid hu; clear e0 hl hu
        go_enter Tryd.func15, Tryd.ntmps15
        go_wp2_with (go_at_call 25; refine (ungroup_any s k hle hs _).mono ?_; rw [HU.out]; rintro e w' ⟨rfl, rfl⟩; dsimp only [ungV])
        go_ret3
        exact ⟨intV_mk HE.out, rfl⟩
      | some x =>
        obtain ⟨z, j⟩ := x
        obtain ⟨v, m, a1, a2, a3, a4, a5, a6, a7, _⟩ := ung_some 9 0 0 _ z j hu
        have hz9 : z < 9223372036854775808 := by rw [pow9] at a7; simp at a6; omega
        have hj : (k : Int) + j ≤ s.size := by rw [List.length_drop] at a3; omega
        rw [hu] at e0
        simp only at e0
        clear a1 a2 a3 a4 a5 a6 a7
        by_cases hz : 9223372036854775806 < z
        · rw [if_pos hz] at e0
          have HE := Lib.hid e0; have HU := Lib.hid hu; clear e0 hl hu
          go_enter Tryd.func15, Tryd.ntmps15
          go_wp2_with (go_at_call 25; refine (ungroup_any s k hle hs _).mono ?_; rw [HU.out]; rintro e w' ⟨rfl, rfl⟩; dsimp only [ungV])
          go_ret3
          exact ⟨intV_mk HE.out, rfl⟩
        · rw [if_neg hz] at e0
          have HE := Lib.hid e0; have HU := Lib.hid hu; clear e0 hl hu
          go_enter Tryd.func15, Tryd.ntmps15
          go_wp2_with (first | (go_at_call 25; refine (ungroup_any s k hle hs _).mono ?_; rw [HU.out]; rintro e w' ⟨rfl, rfl⟩; dsimp only [ungV]) | (go_at_call 26; refine (unfold_any z _ (by omega)).mono ?_; rintro e w' ⟨rfl, rfl⟩))
          go_ret3
          exact ⟨intV_mk HE.out, rfl⟩
end Go.Proofs.YtcmeplgkillbdaaDoor
