/- The reference's Made: a string determines an integer. -/
import Derived.Test.YtnehkoedmcnjoaaGreatDoorRtx
namespace Go.Proofs.YtnehkoedmcnjoaaGreatDoor
open Go.RowKit

theorem empty_of (s : ByteArray) (h : s.size = 0) : s = ⟨#[]⟩ := ByteArray.ext (Array.eq_empty_of_size_eq_zero h)
set_option maxRecDepth 100000 in
theorem trim0_any (A : Option Addr) (c : Nat) (w : World) : Calls Tryz.prog 27 #[.slice A (0 : Nat) c] w fun e w' => e = .returned (.slice A 0 c) ∧ w' = w := by
  go_enter Tryz.func27, Tryz.ntmps27
  go_wp2
  refine wp_loop_rounds 1 ?_
  rw [rounds_succ]
  go_wp2
  go_ret
  exact ⟨rfl, rfl⟩
set_option maxRecDepth 100000 in
theorem reftext0_any (b : Bool) (A : Option Addr) (c : Nat) (w : World) :
    Calls Tryz.prog 26 #[.bool b, .slice A (0 : Nat) c] w fun e w' => e = .returned (.tuple #[.string (dec (sgn b 0)), .bool true]) ∧ w' = w := by
  rw [dec_sgn0]
  go_enter Tryz.func26, Tryz.ntmps26
  go_wp2
  go_ret2
  exact ⟨rfl, rfl⟩
theorem byte_lt (s : ByteArray) (j : Nat) (h : j < s.size) : s[j].toNat < 256 := s[j].toNat_lt
theorem rem10 (x : Nat) : ((x : Int)).tmod 10 = ((x % 10 : Nat) : Int) := by rw [Int.tmod_eq_emod_of_nonneg (by omega)]; omega

def madeL (s : ByteArray) (M : Nat) : List Nat := (s.data.toList.take M).map fun b => b.toNat % 10
def madeB (s : ByteArray) : Bool := if h : 0 < s.size then decide (128 ≤ s[0].toNat) else false
/-- The integer that a string determines. -/
def madeZ (s : ByteArray) (M : Nat) : Int := sgn (madeB s) (valD (madeL s M))
theorem madeL_add (s : ByteArray) (j : Nat) (h : j < s.size) : madeL s (j + 1) = madeL s j ++ [s[j].toNat % 10] := by
  have hl : j < s.data.toList.length := by rw [Array.length_toList]; exact h
  rw [madeL, List.take_succ_eq_append_getElem hl, List.map_append, madeL, List.map_cons, List.map_nil]
  congr 2
theorem madeL_all (s : ByteArray) (j M : Nat) (h : s.size ≤ j) (h2 : j ≤ M) : madeL s j = madeL s M := by
  have hl : s.data.toList.length = s.size := Array.length_toList
  rw [madeL, madeL, List.take_of_length_le (by omega), List.take_of_length_le (by omega)]
theorem madeL_small (s : ByteArray) (M : Nat) : Small (madeL s M) := fun x hx => by
  obtain ⟨b, _, rfl⟩ := List.mem_map.1 hx
  omega
theorem madeL_len (s : ByteArray) (M : Nat) : (madeL s M).length ≤ M := by rw [madeL, List.length_map, List.length_take]; omega
theorem madeZ_lt (s : ByteArray) (M : Nat) : (madeZ s M).natAbs < 10 ^ M := by
  rw [madeZ, sgn_abs]
  exact Nat.lt_of_lt_of_le (valD_lt (madeL_small s M)) (Nat.pow_le_pow_right (by decide) (madeL_len s M))

set_option maxRecDepth 100000 in
set_option maxHeartbeats 8000000 in
theorem made_any (s : ByteArray) (M : Nat) (hM : M ≤ 200) (w : World) :
    Calls Tryz.prog 5 #[.string s, .int .i64 M] w fun e w' => e = .returned (.string (dec (madeZ s M))) ∧ Below w.heap.size w w' := by
  obtain ⟨i0, hi, hz0, hz1, hz2⟩ := info_parts int_info
  go_enter Tryz.func5, Tryz.ntmps5
  go_wp2
  go_loopw [5, 6] (fun v p wr => ∃ (j : Nat) (l : List Nat), p = .int .i64 j ∧ j ≤ M ∧ j ≤ s.size ∧ j = l.length ∧ Hid (l = madeL s j) ∧ wr.ownsRow w.heap.size 3 1 v j (iV (zs l)) ∧ Below w.heap.size w wr) (fun _ p _ => M - (intOf p).toNat)
  case atStart => exact ⟨0, [], rfl, by omega, by omega, rfl, Lib.hid (by rw [madeL, List.take_zero]; rfl), World.ownsRow_nil _ _ _ _, Below.refl _ _⟩
  case round =>
    obtain ⟨j, l, rfl, hj, hjs, hl, HS, hrow, hbr⟩ := hrel
    by_cases h1 : j < s.size
    · by_cases h2 : j < M
      · have j0 : (0 : Int) ≤ (j : Int) := by omega
        have j1 : (j : Int) < (s.size : Int) := by omega
        have j2 : (j : Int) < (M : Int) := by omega
        obtain ⟨X, hX⟩ : ∃ X, X = s[j].toNat := ⟨_, rfl⟩
        have hX0 := byte_lt s j h1
        rw [← hX] at hX0
        have hXe : ((s[j].toNat : Nat) : Int) = (X : Int) := by rw [hX]
        obtain ⟨D, hD⟩ : ∃ D, D = X % 10 := ⟨_, rfl⟩
        obtain ⟨Y, hY⟩ : ∃ Y : Int, Y = (X : Int) := ⟨_, rfl⟩
        rw [← hY] at hXe
        obtain ⟨T, hT⟩ : ∃ T : Int, T = (D : Int) := ⟨_, rfl⟩
        have a1 : IntKind.i64.wrap Y = Y := i64_in _ (by omega) (by omega)
        have a2 : Y.tmod 10 = T := by rw [hY, rem10, hT, hD]
        have a3 : wrap64 Y = Y := w64_in _ (by omega) (by omega)
        have a4 : wrap64 T = T := w64_in _ (by omega) (by omega)
        have a5 : IntKind.i64.wrap T = T := i64_in _ (by omega) (by omega)
        have mx1 : j + 1 ≤ maxLen := by unfold maxLen; omega
        have mx2 : (j + 1) * 8 ≤ 140737488355328 := by omega
        have hsn : iV (zs (l ++ [D])) = iV (zs l) ++ [.int .i64 T] := by rw [iV_snoc, hT]
        have hD9 : D < 10 := by omega
        have HSN := Lib.hid hsn; have HS2 := Lib.hid (show l ++ [D] = madeL s (j + 1) by rw [madeL_add s j h1, ← HS.out, hD, hX]); have HR := Lib.hid hrow; have HL := Lib.hid hl
        have ka := keep_alloc hbr (.cells #[.int .i64 T] 3)
        clear hsn hD hT hY hX hX0 hrow hD9 hl
        go_wp2_with (at_builtin; refine wpList_append_own _ rfl _ _ 38 rfl w.heap.size 3 i0 (.int .i64 0) 1 8 Tryz.underlying38 hi hz0 hz1 hz2 rfl (by decide) _ _ _ rfl (HR.out.alloc _) ⟨wr.heap.size, 0, none⟩ 1 1 [.int .i64 T] rfl rfl (cell_one_new _ _ _) (by simp [Value.oneCell']) mx1 mx2 ka.size ?_; intro v1 w1 hown1 hgrow _)
        clear a1 a2 a3 a4 a5
        go_roundw
        case rel => exact ⟨j + 1, l ++ [D], by go_num, by omega, by omega, by rw [List.length_append, ← HL.out]; rfl, HS2, by rw [HSN.out]; exact hown1, keep_grown ka hgrow (HR.out.alloc _)⟩
        case measure => simp [intOf]; omega
      · have z0 : (0 : Int) < (s.size : Int) := by omega
        have j1 : (j : Int) < (s.size : Int) := by omega
        have j2 : ¬ (j : Int) < (M : Int) := by omega
        have h0 : 0 < s.size := by omega
        obtain ⟨X, hX⟩ : ∃ X : Int, ((s[0].toNat : Nat) : Int) = X := ⟨_, rfl⟩
        obtain ⟨A, c, rfl, hD⟩ := own_dl l hl hrow
        have hlM : l = madeL s M := by rw [HS.out, show j = M by omega]
        have hn2 : valD l < 10 ^ M := by rw [hlM]; exact Nat.lt_of_lt_of_le (valD_lt (madeL_small s M)) (Nat.pow_le_pow_right (by decide) (madeL_len s M))
        obtain ⟨n, hn0⟩ : ∃ n, n = valD l := ⟨_, rfl⟩
        have hz : madeZ s M = sgn (madeB s) n := by rw [madeZ, ← hlM, hn0]
        have HZ := Lib.hid hz
        have cT : ∀ W, Below wr.heap.size wr W → Calls Tryz.prog 27 #[.slice A j c] W fun e w' => (∃ L', e = .returned (.slice A L' c) ∧ Dl W wr.heap.size A L' c (dg n)) ∧ w' = W := fun W h => by rw [hn0]; exact trim_any A j c wr.heap.size l (by rw [hlM]; exact madeL_small s M) (by omega) W (hD.below h)
        rw [← hn0] at hn2
        have hlen : ∀ (W : World) (L' : Nat), Dl W wr.heap.size A L' c (dg n) → L' ≤ 2000 := fun W L' h => by have h1 := h.len; have h2 := dg_len_lt hn2; omega
        have cX : ∀ (b : Bool) (W : World) (L' : Nat), Below wr.heap.size wr W → Dl W wr.heap.size A L' c (dg n) → Calls Tryz.prog 26 #[.bool b, .slice A L' c] W fun e w' => e = .returned (.tuple #[.string (dec (sgn b n)), .bool (decide (L' ≤ 200))]) ∧ Below W.heap.size W w' := fun b W L' h1 h2 => reftext_any b A L' c n (hlen W L' h2) W (h2.more h1.size)
        obtain ⟨SP, hSP⟩ : ∃ SP, SP = dec (sgn true n) := ⟨_, rfl⟩
        obtain ⟨SM, hSM⟩ : ∃ SM, SM = dec (sgn false n) := ⟨_, rfl⟩
        have cXP := cX true
        have cXM := cX false
        rw [← hSP] at cXP
        rw [← hSM] at cXM
        have CT := Lib.hid cT; have CXP := Lib.hid cXP; have CXM := Lib.hid cXM; have HSP := Lib.hid hSP; have HSM := Lib.hid hSM; have HN2 := Lib.hid hn2; have HBR := Lib.hid hbr
        clear hlM hz hn0 cT cX cXP cXM hSP hSM hn2 hlen hD hrow hbr hl
        by_cases hx : (128 : Int) ≤ X
        · have HB := Lib.hid (show madeB s = true by rw [madeB, dif_pos h0, decide_eq_true]; omega)
          have d0 : decide ((128 : Int) ≤ X) = true := by rw [decide_eq_true hx]
          have d1 : (128 : Int) ≤ X := hx
          go_wp2
          go_region_held3 (fun W => Below wr.heap.size wr W)
            (first | go_keep | assumption | exact (Below.refl _ _).drew | exact below_step (by assumption) (by assumption) | exact (by assumption : Below _ _ _).drew)
            (first
              | (go_at_call 27; ((with_reducible refine (CT.out _ (by assumption)).mono ?_); rintro e w3 ⟨⟨L3, rfl, hD3⟩, rfl⟩))
              | (go_at_call 26; ((with_reducible refine (CXP.out _ _ (by assumption) (by assumption)).mono ?_); rintro e w4 ⟨rfl, b4⟩)))
          all_goals go_wp2
          all_goals go_ret
          all_goals exact ⟨by rw [HZ.out, HB.out, ← HSP.out]; rfl, below_step HBR.out (by assumption)⟩
        · have HB := Lib.hid (show madeB s = false by rw [madeB, dif_pos h0, decide_eq_false]; omega)
          have d0 : decide ((128 : Int) ≤ X) = false := by rw [decide_eq_false hx]
          have d1 : ¬ (128 : Int) ≤ X := hx
          go_wp2
          go_region_held3 (fun W => Below wr.heap.size wr W)
            (first | go_keep | assumption | exact (Below.refl _ _).drew | exact below_step (by assumption) (by assumption) | exact (by assumption : Below _ _ _).drew)
            (first
              | (go_at_call 27; ((with_reducible refine (CT.out _ (by assumption)).mono ?_); rintro e w3 ⟨⟨L3, rfl, hD3⟩, rfl⟩))
              | (go_at_call 26; ((with_reducible refine (CXM.out _ _ (by assumption) (by assumption)).mono ?_); rintro e w4 ⟨rfl, b4⟩)))
          all_goals go_wp2
          all_goals go_ret
          all_goals exact ⟨by rw [HZ.out, HB.out, ← HSM.out]; rfl, below_step HBR.out (by assumption)⟩
    · by_cases h0 : 0 < s.size
      · have z0 : (0 : Int) < (s.size : Int) := by omega
        have j1 : ¬ (j : Int) < (s.size : Int) := by omega
        obtain ⟨X, hX⟩ : ∃ X : Int, ((s[0].toNat : Nat) : Int) = X := ⟨_, rfl⟩
        obtain ⟨A, c, rfl, hD⟩ := own_dl l hl hrow
        have hlM : l = madeL s M := by rw [HS.out, madeL_all s j M (by omega) hj]
        have hn2 : valD l < 10 ^ M := by rw [hlM]; exact Nat.lt_of_lt_of_le (valD_lt (madeL_small s M)) (Nat.pow_le_pow_right (by decide) (madeL_len s M))
        obtain ⟨n, hn0⟩ : ∃ n, n = valD l := ⟨_, rfl⟩
        have hz : madeZ s M = sgn (madeB s) n := by rw [madeZ, ← hlM, hn0]
        have HZ := Lib.hid hz
        have cT : ∀ W, Below wr.heap.size wr W → Calls Tryz.prog 27 #[.slice A j c] W fun e w' => (∃ L', e = .returned (.slice A L' c) ∧ Dl W wr.heap.size A L' c (dg n)) ∧ w' = W := fun W h => by rw [hn0]; exact trim_any A j c wr.heap.size l (by rw [hlM]; exact madeL_small s M) (by omega) W (hD.below h)
        rw [← hn0] at hn2
        have hlen : ∀ (W : World) (L' : Nat), Dl W wr.heap.size A L' c (dg n) → L' ≤ 2000 := fun W L' h => by have h1 := h.len; have h2 := dg_len_lt hn2; omega
        have cX : ∀ (b : Bool) (W : World) (L' : Nat), Below wr.heap.size wr W → Dl W wr.heap.size A L' c (dg n) → Calls Tryz.prog 26 #[.bool b, .slice A L' c] W fun e w' => e = .returned (.tuple #[.string (dec (sgn b n)), .bool (decide (L' ≤ 200))]) ∧ Below W.heap.size W w' := fun b W L' h1 h2 => reftext_any b A L' c n (hlen W L' h2) W (h2.more h1.size)
        obtain ⟨SP, hSP⟩ : ∃ SP, SP = dec (sgn true n) := ⟨_, rfl⟩
        obtain ⟨SM, hSM⟩ : ∃ SM, SM = dec (sgn false n) := ⟨_, rfl⟩
        have cXP := cX true
        have cXM := cX false
        rw [← hSP] at cXP
        rw [← hSM] at cXM
        have CT := Lib.hid cT; have CXP := Lib.hid cXP; have CXM := Lib.hid cXM; have HSP := Lib.hid hSP; have HSM := Lib.hid hSM; have HN2 := Lib.hid hn2; have HBR := Lib.hid hbr
        clear hlM hz hn0 cT cX cXP cXM hSP hSM hn2 hlen hD hrow hbr hl
        by_cases hx : (128 : Int) ≤ X
        · have HB := Lib.hid (show madeB s = true by rw [madeB, dif_pos h0, decide_eq_true]; omega)
          have d0 : decide ((128 : Int) ≤ X) = true := by rw [decide_eq_true hx]
          have d1 : (128 : Int) ≤ X := hx
          go_wp2
          go_region_held3 (fun W => Below wr.heap.size wr W)
            (first | go_keep | assumption | exact (Below.refl _ _).drew | exact below_step (by assumption) (by assumption) | exact (by assumption : Below _ _ _).drew)
            (first
              | (go_at_call 27; ((with_reducible refine (CT.out _ (by assumption)).mono ?_); rintro e w3 ⟨⟨L3, rfl, hD3⟩, rfl⟩))
              | (go_at_call 26; ((with_reducible refine (CXP.out _ _ (by assumption) (by assumption)).mono ?_); rintro e w4 ⟨rfl, b4⟩)))
          all_goals go_wp2
          all_goals go_ret
          all_goals exact ⟨by rw [HZ.out, HB.out, ← HSP.out]; rfl, below_step HBR.out (by assumption)⟩
        · have HB := Lib.hid (show madeB s = false by rw [madeB, dif_pos h0, decide_eq_false]; omega)
          have d0 : decide ((128 : Int) ≤ X) = false := by rw [decide_eq_false hx]
          have d1 : ¬ (128 : Int) ≤ X := hx
          go_wp2
          go_region_held3 (fun W => Below wr.heap.size wr W)
            (first | go_keep | assumption | exact (Below.refl _ _).drew | exact below_step (by assumption) (by assumption) | exact (by assumption : Below _ _ _).drew)
            (first
              | (go_at_call 27; ((with_reducible refine (CT.out _ (by assumption)).mono ?_); rintro e w3 ⟨⟨L3, rfl, hD3⟩, rfl⟩))
              | (go_at_call 26; ((with_reducible refine (CXM.out _ _ (by assumption) (by assumption)).mono ?_); rintro e w4 ⟨rfl, b4⟩)))
          all_goals go_wp2
          all_goals go_ret
          all_goals exact ⟨by rw [HZ.out, HB.out, ← HSM.out]; rfl, below_step HBR.out (by assumption)⟩
      · obtain ⟨A, c, rfl, hD⟩ := own_dl l hl hrow
        have j1 : ¬ (j : Int) < (s.size : Int) := by omega
        clear hD
        have hj0 : j = 0 := by omega
        have hz0 : madeZ s M = sgn false 0 := by rw [madeZ, madeB, dif_neg h0, madeL, empty_of s (by omega)]; simp [valD]
        have HZ := Lib.hid hz0
        clear hz0
        have z0 : decide (0 < s.size) = false := decide_eq_false h0
        have hz : dec (sgn false 0) = str [48] := dec_sgn0 false
        obtain ⟨S, hS⟩ : ∃ S, S = dec (sgn false 0) := ⟨_, rfl⟩
        have cT : ∀ W, Calls Tryz.prog 27 #[.slice A j c] W fun e w' => e = .returned (.slice A 0 c) ∧ w' = W := fun W => by rw [hj0]; exact trim0_any A c W
        have cX := fun W => reftext0_any false A c W
        rw [← hS] at cX
        have HS0 := Lib.hid hS; have HBR := Lib.hid hbr
        clear h0 h1 hS hz hbr hrow hj0 hl HS hjs
        go_wp2
        go_quiet ((first | (go_at_call 27; exact Calls.quiet_of_same (cT _)) | (go_at_call 26; exact Calls.quiet_of_same (cX _))))
        go_wp2
        go_ret
        exact ⟨by rw [HZ.out, ← HS0.out]; rfl, by first | exact HBR.out.drew | exact below_drawnN HBR.out _⟩
end Go.Proofs.YtnehkoedmcnjoaaGreatDoor
