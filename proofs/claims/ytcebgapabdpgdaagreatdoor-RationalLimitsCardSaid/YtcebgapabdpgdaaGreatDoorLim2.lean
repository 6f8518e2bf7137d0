/- RationalLimits: the walk. RationalLimits: joined. -/
import Derived.Test.YtcebgapabdpgdaaGreatDoorMin
namespace Go.Proofs.YtcebgapabdpgdaaGreatDoor
open Go.RowKit

theorem tens_size (k : Nat) : ((⟨#[49]⟩ : ByteArray) ++ ⟨(Lib.repeatL [48] k).toArray⟩).size = k + 1 := by
  rw [ByteArray.size_append]
  show 1 + (Lib.repeatL [48] k).toArray.size = k + 1
  rw [zeros_list]; simp; omega
/-- 1 and zeros. -/
def tenT (k : Nat) : ByteArray := dec ((10 ^ k : Nat) : Int)
theorem tenT_zero : tenT 0 = ⟨#[49]⟩ := l1.symm
theorem tenT_size (k : Nat) : (tenT k).size = k + 1 := by rw [tenT, ← tens_text, tens_size]
theorem tenT_succ (k : Nat) : tenT k ++ ⟨#[48]⟩ = tenT (k + 1) := by
  rw [tenT, tenT, ← tens_text, ← tens_text, zeros_list, zeros_list]
  apply ByteArray.ext
  simp only [ByteArray.data_append]
  show #[49] ++ (List.replicate k (48 : UInt8)).toArray ++ #[48] = #[49] ++ (List.replicate (k + 1) (48 : UInt8)).toArray
  rw [List.replicate_succ']
  simp
def tenQ (k : Nat) : Rat := Rat.divInt ((10 ^ k : Nat) : Int) 1
def thQ (k : Nat) : Rat := Rat.divInt 1 ((10 ^ k : Nat) : Int)
theorem tens_pos (k : Nat) : 0 < ((10 ^ k : Nat) : Int) := by have := Nat.pow_pos (n := k) (show 0 < 10 by decide); omega
theorem tenQ_parts (k : Nat) : (tenQ k).num = ((10 ^ k : Nat) : Int) ∧ ((tenQ k).den : Int) = 1 := divInt_low (by decide) (by simp)
theorem thQ_parts (k : Nat) : (thQ k).num = 1 ∧ ((thQ k).den : Int) = ((10 ^ k : Nat) : Int) := divInt_low (tens_pos k) (by simp)
theorem fits10 {k : Nat} (h : k < 200) : fits ((10 ^ k : Nat) : Int) = true := by
  unfold fits lim
  rw [decide_eq_true_eq, Int.natAbs_natCast]
  exact Nat.pow_lt_pow_right (by decide) h
theorem fits10_not {k : Nat} (h : 200 ≤ k) : fits ((10 ^ k : Nat) : Int) = false := by
  unfold fits lim
  rw [decide_eq_false_iff_not, Int.natAbs_natCast]
  have := Nat.pow_le_pow_right (n := 10) (by decide) h
  omega
theorem fits10' {k : Nat} (h : k < 200) : fits ((10 ^ k : Nat) + 1 : Int) = true := by
  unfold fits lim
  rw [decide_eq_true_eq]
  have h1 : 10 ^ k ≤ 10 ^ 199 := Nat.pow_le_pow_right (by decide) (by omega)
  have h2 : (10 : Nat) ^ 200 = 10 ^ 199 * 10 := Nat.pow_succ ..
  have h3 : 1 ≤ (10 : Nat) ^ 199 := Nat.pow_pos (by decide)
  have h4 : (((10 ^ k : Nat) : Int) + 1).natAbs = 10 ^ k + 1 := by (generalize 10 ^ k = z; omega)
  rw [h4]
  omega
theorem f1 : fits 1 = true := fits_tiny (by decide)
theorem tenQ_ok {k : Nat} (h : k < 200) : okO (some (tenQ k)) = true := okQ_iff.2 ⟨by rw [(tenQ_parts k).1]; exact fits10 h, by rw [(tenQ_parts k).2]; exact f1⟩
theorem thQ_ok {k : Nat} (h : k < 200) : okO (some (thQ k)) = true := okQ_iff.2 ⟨by rw [(thQ_parts k).1]; exact f1, by rw [(thQ_parts k).2]; exact fits10 h⟩
theorem pow_cast (n m : Nat) : ((10 ^ n : Nat) : Int) * ((10 ^ m : Nat) : Int) = ((10 ^ (n + m) : Nat) : Int) := by rw [← Int.natCast_mul, ← Nat.pow_add]
theorem lim_mul (n m : Nat) : mulO (some (tenQ n)) (some (tenQ m)) = if n + m + 1 ≤ 200 then some (tenQ n * tenQ m) else none := by
  rw [mulO, (tenQ_parts n).1, (tenQ_parts m).1, (tenQ_parts n).2, (tenQ_parts m).2, pow_cast, Int.mul_one, f1, Bool.and_true]
  by_cases h : n + m + 1 ≤ 200
  · rw [fits10 (by omega), if_pos rfl, if_pos h]
  · rw [fits10_not (by omega), if_neg h]; rfl
theorem one_tens : (Rat.divInt 1 1).num = 1 ∧ ((Rat.divInt 1 1).den : Int) = 1 := divInt_low (by decide) (by decide)
theorem lim_div {m : Nat} (h : m < 200) : divO (some (Rat.divInt 1 1)) (some (tenQ m)) = some (thQ m) := by
  rw [divO, one_tens.1, one_tens.2, (tenQ_parts m).1, (tenQ_parts m).2, Int.mul_one, Int.one_mul, f1, fits10 h, decide_eq_true (tens_ne m), ← div_div, one_tens.1, one_tens.2, (tenQ_parts m).1, (tenQ_parts m).2, Int.mul_one, Int.one_mul]
  rfl
theorem lim_add {n m : Nat} (hm : m < 200) : qtE (addO (some (tenQ n)) (some (thQ m))) = if n + m + 1 ≤ 200 then 0 else 40 := by
  rw [addO, (tenQ_parts n).1, (tenQ_parts n).2, (thQ_parts m).1, (thQ_parts m).2, pow_cast, Int.one_mul, Int.one_mul, f1, fits10 hm, Bool.and_true, Bool.and_true]
  by_cases h : n + m + 1 ≤ 200
  · rw [fits10 (by omega), fits10' (by omega), if_pos h]; rfl
  · rw [fits10_not (by omega), if_neg h]; rfl
theorem lim_cmp1 (n m : Nat) : cmpO (some (tenQ n)) (some (tenQ m)) = if n < m then -1 else if m < n then 1 else 0 := by
  rw [cmpO, (tenQ_parts n).1, (tenQ_parts n).2, (tenQ_parts m).1, (tenQ_parts m).2, Int.mul_one, Int.mul_one, cmpI]
  have key : ∀ a b : Nat, ((10 ^ a : Nat) : Int) < ((10 ^ b : Nat) : Int) ↔ a < b := fun a b => by
    rw [Int.ofNat_lt]; exact Nat.pow_lt_pow_iff_right (by decide)
  simp only [key]
theorem lim_cmp2 (n m : Nat) : cmpO (some (tenQ n)) (some (thQ m)) = if n = 0 ∧ m = 0 then 0 else 1 := by
  rw [cmpO, (tenQ_parts n).1, (tenQ_parts n).2, (thQ_parts m).1, (thQ_parts m).2, pow_cast, Int.mul_one]
  have hp := tens_pos (n + m)
  by_cases h : n = 0 ∧ m = 0
  · rw [if_pos h, h.1, h.2]; rfl
  · rw [if_neg h]
    have : 1 < 10 ^ (n + m) := Nat.one_lt_pow (by omega) (by decide)
    rw [cmpI_gt (by omega)]

set_option maxRecDepth 1000000 in
set_option maxHeartbeats 80000000 in
theorem lim_go (n m : Int) (n0 : -9223372036854775808 ≤ n) (n1 : n ≤ 9223372036854775807) (m0 : -9223372036854775808 ≤ m) (m1 : m ≤ 9223372036854775807) (w : World) (ht : Tab w)
    (hsane : ∀ W, Tab W → Calls Tryz.prog 11 #[] W fun e w' => e = .returned (.bool true) ∧ Below W.heap.size W w')
    (N M : Nat) (hN : pkI n 200 = (N : Int)) (hM : pkI m 200 = (M : Int)) (hN2 : N < 200) (hM2 : M < 200)
    (E G Wt Ab : Int) (Z1 Z2 S1 S2 G1 G2 : ByteArray)
    (cM : ∀ W, Tab W → Calls Tryz.prog 39 #[rv (tenT N) ⟨#[49]⟩, rv (tenT M) ⟨#[49]⟩] W fun e w' => e = .returned (.tuple #[.agg #[.string Z1, .string Z2], .int .i64 E]) ∧ Below W.heap.size W w')
    (cD : ∀ W, Tab W → Calls Tryz.prog 45 #[rv ⟨#[49]⟩ ⟨#[49]⟩, rv (tenT M) ⟨#[49]⟩] W fun e w' => e = .returned (.tuple #[.agg #[.string S1, .string S2], .int .i64 0]) ∧ Below W.heap.size W w')
    (cA : ∀ W, Tab W → Calls Tryz.prog 38 #[rv (tenT N) ⟨#[49]⟩, rv S1 S2] W fun e w' => e = .returned (.tuple #[.agg #[.string G1, .string G2], .int .i64 G]) ∧ Below W.heap.size W w')
    (cC : ∀ W, Tab W → Calls Tryz.prog 20 #[rv (tenT N) ⟨#[49]⟩, rv (tenT M) ⟨#[49]⟩] W fun e w' => e = .returned (.int .i64 Wt) ∧ Below W.heap.size W w')
    (cB : ∀ W, Tab W → Calls Tryz.prog 20 #[rv (tenT N) ⟨#[49]⟩, rv S1 S2] W fun e w' => e = .returned (.int .i64 Ab) ∧ Below W.heap.size W w')
    (hE : (E = 0 ∧ G = 0 ∧ (N : Int) + M + 1 ≤ 200) ∨ (E = 40 ∧ G = 40 ∧ Z1 = ⟨#[]⟩ ∧ Z2 = ⟨#[]⟩ ∧ ¬ (N : Int) + M + 1 ≤ 200))
    (hW : (N = 0 ∧ M = 0 ∧ Wt = 0 ∧ Ab = 0) ∨ (N = M ∧ 0 < N ∧ Wt = 0 ∧ Ab = 1) ∨ (N < M ∧ 0 < N ∧ Wt = -1 ∧ Ab = 1) ∨ (N < M ∧ N = 0 ∧ Wt = -1 ∧ Ab = 1) ∨ (M < N ∧ Wt = 1 ∧ Ab = 1)) :
    Calls Tryz.prog 10 #[.int .i64 n, .int .i64 m] w fun e w' => e = .returned (.bool true) ∧ Below w.heap.size w w' := by
  have cP1 := fun W => pick_of n 200 (by decide) n0 n1 W
  have cP2 := fun W => pick_of m 200 (by decide) m0 m1 W
  rw [hN] at cP1
  rw [hM] at cP2
  obtain ⟨XN, hXN⟩ : ∃ X, X = tenT N := ⟨_, rfl⟩
  obtain ⟨XM, hXM⟩ : ∃ X, X = tenT M := ⟨_, rfl⟩
  rw [← hXN, ← hXM] at cM cC
  rw [← hXM] at cD
  rw [← hXN] at cA cB
  have CS := Lib.hid hsane; have CP1 := Lib.hid cP1; have CP2 := Lib.hid cP2; have CM := Lib.hid cM; have CD := Lib.hid cD; have CA := Lib.hid cA; have CC := Lib.hid cC; have CB := Lib.hid cB; have T0 := Lib.hid ht; have CI := Lib.hid is_of; have V0 : Iv w [] w := ⟨Below.refl _ _, trivial⟩; have HXN := Lib.hid hXN; have HXM := Lib.hid hXM; have HE := Lib.hid hE; have HW := Lib.hid hW
  have P0 := T0
  clear ht hsane cP1 cP2 cM cD cA cC cB hXN hXM hE hW n0 n1 m0 m1 hN hM
  have eW : IntKind.i64.wrap ((N : Int) + (M : Int)) = (N : Int) + M := IntWalk.i64_in _ (by omega)
  have eW2 : IntKind.i64.wrap ((N : Int) + (M : Int) + 1) = (N : Int) + M + 1 := IntWalk.i64_in _ (by omega)
  go_enter Tryz.func10, Tryz.ntmps10
  go_wp2_with (first
    | (go_at_call 11; (with_reducible refine (CS.out _ P0.out).mono ?_); rintro e w1 ⟨rfl, b1⟩; have V1 := Iv.step V0 b1; have P1 := Lib.hid (T0.out.below (Iv.b V1)))
    | (go_at_call 22; (with_reducible refine (CP1.out _).mono ?_); rintro e wx ⟨rfl, hwx⟩; have hwx := hwx.symm; subst hwx)
    | (go_at_call 22; (with_reducible refine (CP2.out _).mono ?_); rintro e wx ⟨rfl, hwx⟩; have hwx := hwx.symm; subst hwx)
    | fail)
  go_loopg [6, 7] N (fun kx s6 s7 wr => ∃ k : Nat, s6 = .string (tenT k) ∧ s7 = .int .i64 (k : Int) ∧ k + kx = N ∧ wr = w1)
  case atStart => exact ⟨0, by rw [tenT_zero], rfl, by omega, rfl⟩
  case round =>
    obtain ⟨k, rfl, rfl, hk, hwr⟩ := hrel
    have hwr := hwr.symm; subst hwr
    by_cases hlt : k < N
    · have hs := tenT_size k
      have hc := tenT_succ k
      obtain ⟨X, hX⟩ : ∃ X, X = tenT k := ⟨_, rfl⟩
      obtain ⟨Y, hY⟩ : ∃ Y, Y = tenT (k + 1) := ⟨_, rfl⟩
      rw [← hX] at hs hc ⊢
      rw [← hY] at hc
      have hs2 : X.size ≤ 300 := by omega
      have HY := Lib.hid hY
      clear hX hY hs
      go_wp2
      go_roundg (N - (k + 1))
      case measure => omega
      case rel => exact ⟨k + 1, by rw [HY.out], by go_num, by omega, rfl⟩
    · obtain rfl : N = k := by omega
      rw [← HXN.out]
      clear hlt hk
      go_wp2_with fail
      go_loopg [8, 9] M (fun kx s8 s9 wr => ∃ k : Nat, s8 = .string (tenT k) ∧ s9 = .int .i64 (k : Int) ∧ k + kx = M ∧ wr = w1)
      case atStart => exact ⟨0, by rw [tenT_zero], rfl, by omega, rfl⟩
      case round =>
        obtain ⟨k, rfl, rfl, hk, hwr⟩ := hrel
        have hwr := hwr.symm; subst hwr
        by_cases hlt : k < M
        · have hs := tenT_size k
          have hc := tenT_succ k
          obtain ⟨X, hX⟩ : ∃ X, X = tenT k := ⟨_, rfl⟩
          obtain ⟨Y, hY⟩ : ∃ Y, Y = tenT (k + 1) := ⟨_, rfl⟩
          rw [← hX] at hs hc ⊢
          rw [← hY] at hc
          have hs2 : X.size ≤ 300 := by omega
          have HY := Lib.hid hY
          clear hX hY hs
          go_wp2
          go_roundg (M - (k + 1))
          case measure => omega
          case rel => exact ⟨k + 1, by rw [HY.out], by go_num, by omega, rfl⟩
        · obtain rfl : M = k := by omega
          rw [← HXM.out]
          clear hlt hk
          go_upto_region 17 with (first
            | (go_at_call 41; (with_reducible refine (CI.out XN ⟨#[49]⟩ _).mono ?_); rintro e w2 ⟨rfl, b2⟩; have V2 := Iv.push (Iv.step V1 b2) XN ⟨#[49]⟩; have P2 := Lib.hid (T0.out.below (Iv.b V2)); have q2 := Iv.eqs V2; simp only [Cx] at q2)
            | (go_at_call 41; (with_reducible refine (CI.out XM ⟨#[49]⟩ _).mono ?_); rintro e w3 ⟨rfl, b3⟩; have V3 := Iv.push (Iv.step V2 b3) XM ⟨#[49]⟩; have P3 := Lib.hid (T0.out.below (Iv.b V3)); have q3 := Iv.eqs V3; simp only [Cx] at q3)
            | (go_at_call 39; (with_reducible refine (CM.out _ P3.out).mono ?_); rintro e w4 ⟨rfl, b4⟩; have V4 := Iv.push (Iv.step V3 b4) Z1 Z2; have P4 := Lib.hid (T0.out.below (Iv.b V4)))
            | fail)
          clear V0 V1 V2 V3 P0 P1 P2 P3 P4 q2 q3 b1 b2 b3 b4
          obtain ⟨WA, hWA⟩ : ∃ WA, WA = w4.alloc (.cells #[.string Z1, .string Z2] 23) := ⟨_, rfl⟩
          rw [← hWA] at V4 ⊢
          clear hWA
          have FA := Iv.new V4
          have kk : ∀ W, Iv w ((w4.heap.size, Z1, Z2) :: (w3.heap.size, XM, ⟨#[49]⟩) :: (w2.heap.size, XN, ⟨#[49]⟩) :: []) W → (Hid (Iv w ((w4.heap.size, Z1, Z2) :: (w3.heap.size, XM, ⟨#[49]⟩) :: (w2.heap.size, XN, ⟨#[49]⟩) :: []) W) ∧ W.cell? ⟨w3.heap.size, 0, none⟩ = some (.string XM) ∧ W.cell? ⟨w3.heap.size, 1, none⟩ = some (.string ⟨#[49]⟩)) := fun W h => ⟨Lib.hid h, (h.eqs.2.2).1, (h.eqs.2.2).2.1⟩
          have gg : ∀ W, (Hid (Iv w ((w4.heap.size, Z1, Z2) :: (w3.heap.size, XM, ⟨#[49]⟩) :: (w2.heap.size, XN, ⟨#[49]⟩) :: []) W) ∧ W.cell? ⟨w3.heap.size, 0, none⟩ = some (.string XM) ∧ W.cell? ⟨w3.heap.size, 1, none⟩ = some (.string ⟨#[49]⟩)) → Iv w ((w4.heap.size, Z1, Z2) :: (w3.heap.size, XM, ⟨#[49]⟩) :: (w2.heap.size, XN, ⟨#[49]⟩) :: []) W := fun W h => h.1.out
          have KK := Lib.hid kk; have GG := Lib.hid gg; have HA := Lib.hid V4
          clear kk gg V4
          go_cut [14, 15] (fun s14 s15 W => ∃ g, s14 = .pointer (some ⟨g, 0, none⟩) ∧ s15 = .int .i64 0 ∧ Fresh w ((w4.heap.size, Z1, Z2) :: (w3.heap.size, XM, ⟨#[49]⟩) :: (w2.heap.size, XN, ⟨#[49]⟩) :: []) g ∧ Iv w ((g, S1, S2) :: (w4.heap.size, Z1, Z2) :: (w3.heap.size, XM, ⟨#[49]⟩) :: (w2.heap.size, XN, ⟨#[49]⟩) :: []) W)
          case first =>
            go_region_held3 (fun W => Hid (Iv w ((w4.heap.size, Z1, Z2) :: (w3.heap.size, XM, ⟨#[49]⟩) :: (w2.heap.size, XN, ⟨#[49]⟩) :: []) W) ∧ W.cell? ⟨w3.heap.size, 0, none⟩ = some (.string XM) ∧ W.cell? ⟨w3.heap.size, 1, none⟩ = some (.string ⟨#[49]⟩))
              (first | assumption | exact KK.out _ HA.out.drew | exact KK.out _ (Iv.step (GG.out _ (by assumption)) (by assumption)) | exact KK.out _ (Iv.step (GG.out _ (by assumption)) (below_alloc _ _)) | exact KK.out _ (Iv.step HB (below_alloc _ _)) | exact KK.out _ (Iv.far (GG.out _ (by assumption)) (by assumption) _ _))
              (first
                | (go_at_call 41; ((refine (CI.out _ _ _).mono ?_); rintro e y6 ⟨rfl, z6⟩; have H6 := Iv.step (GG.out _ (by assumption)) z6; have F6 := Iv.new H6; try (have N6 := RAny.over (RAny.drew (RAny.made WA ⟨#[]⟩ ⟨#[]⟩)) z6)))
                | (go_at_call 45; ((refine (CD.out _ (T0.out.below (Iv.b (GG.out _ (by assumption))))).mono ?_); rintro e y7 ⟨rfl, z7⟩; have HB := Iv.step (GG.out _ (by assumption)) z7; have F7 := Iv.new HB; try (first | (have N7 := RAny.over N6 z7; obtain ⟨q0, q1, q2, q3⟩ := N7.eqs) | (have N7 := RAny.over (RAny.made y6 ⟨#[]⟩ ⟨#[]⟩) z7; obtain ⟨q0, q1, q2, q3⟩ := N7.eqs)))))
            all_goals go_wp2_with fail
            all_goals go_meet
            all_goals (case rel => first | exact ⟨_, rfl, rfl, F7, Iv.push HB S1 S2⟩ | exact ⟨_, rfl, rfl, F6, Iv.put HB F6 N7 _ _⟩ | exact ⟨_, rfl, rfl, FA, Iv.put HB FA N7 _ _⟩)
          case rest =>
          clear HA FA KK GG
          obtain ⟨g14, rfl, rfl, fr14, V5⟩ := hcut
          have P5 := Lib.hid (T0.out.below (Iv.b V5))
          obtain ⟨w5, hw5⟩ : ∃ w5, w5 = wc := ⟨_, rfl⟩
          rw [← hw5] at V5 P5 ⊢
          clear hw5
          have q5 := Iv.eqs V5; simp only [Cx] at q5
          go_upto_region 20 with (first
            | (go_at_call 38; (with_reducible refine (CA.out _ P5.out).mono ?_); rintro e w6 ⟨rfl, b6⟩; have V6 := Iv.push (Iv.step V5 b6) G1 G2; have P6 := Lib.hid (T0.out.below (Iv.b V6)); have q6 := Iv.eqs V6; simp only [Cx] at q6; clear q5)
            | fail)
          obtain ⟨WB, hWB⟩ : ∃ WB, WB = w6.alloc (.cells #[.string G1, .string G2] 23) := ⟨_, rfl⟩
          rw [← hWB] at V6 P6 q6 ⊢
          clear hWB CS CP1 CP2 CM CD CA HXN HXM fr14 V5 P5 b6
          go_cut [93] (fun s93 W => s93 = .bool false ∧ W = WB)
          case first =>
            rcases HE.out with ⟨h5, h6, hF⟩ | ⟨h5, h6, h7, h8, hF⟩
            · subst h5 h6
              clear HE HW
              go_wp2_with fail
              go_meet
              case rel => exact ⟨rfl, rfl⟩
            · subst h5 h6 h7 h8
              have hF2 : decide ((N : Int) + M + 1 ≤ 200) = false := decide_eq_false (by omega)
              clear HE HW
              go_wp2_with fail
              go_meet
              case rel => first | exact ⟨rfl, rfl⟩ | exact ⟨by rw [hF2], rfl⟩
          case rest =>
          obtain ⟨rfl, hwc⟩ := hcut
          have hwc := hwc.symm; subst hwc
          clear HE
          go_upto_if 96 with fail
          go_cut [19] (fun s19 W => s19 = .int .i64 Wt ∧ W = WB)
          case first =>
            rcases HW.out with ⟨h1, h2, h3, h4⟩ | ⟨h1, h2, h3, h4⟩ | ⟨h1, h2, h3, h4⟩ | ⟨h1, h2, h3, h4⟩ | ⟨h1, h3, h4⟩
            · have u0 : ¬ (N : Int) < M := by omega
              have u1 : ¬ (M : Int) < N := by omega
              clear HW h1 h2
              go_wp2_with fail
              go_meet
              case rel => exact ⟨by rw [h3], rfl⟩
            · have u0 : ¬ (N : Int) < M := by omega
              have u1 : ¬ (M : Int) < N := by omega
              clear HW h1 h2
              go_wp2_with fail
              go_meet
              case rel => exact ⟨by rw [h3], rfl⟩
            · have u0 : (N : Int) < M := by omega
              clear HW h1 h2
              go_wp2_with fail
              go_meet
              case rel => exact ⟨by rw [h3], rfl⟩
            · have u0 : (N : Int) < M := by omega
              clear HW h1 h2
              go_wp2_with fail
              go_meet
              case rel => exact ⟨by rw [h3], rfl⟩
            · have u0 : ¬ (N : Int) < M := by omega
              have u1 : (M : Int) < N := by omega
              clear HW h1
              go_wp2_with fail
              go_meet
              case rel => exact ⟨by rw [h3], rfl⟩
          case rest =>
          obtain ⟨rfl, hwc⟩ := hcut
          have hwc := hwc.symm; subst hwc
          rcases HW.out with ⟨h1, h2, h3, h4⟩ | ⟨h1, h2, h3, h4⟩ | ⟨h1, h2, h3, h4⟩ | ⟨h1, h2, h3, h4⟩ | ⟨h1, h3, h4⟩
          · have u0 : (N : Int) = 0 := by omega
            have u1 : (M : Int) = 0 := by omega
            subst h3 h4
            clear HW h1 h2
            go_wp2_with (first
              | (go_at_call 20; (with_reducible refine (CC.out _ P6.out).mono ?_); rintro e w7 ⟨rfl, b7⟩; have V7 := Iv.step V6 b7; have P7 := Lib.hid (T0.out.below (Iv.b V7)); have q7 := Iv.eqs V7; simp only [Cx] at q7; clear q6)
              | (go_at_call 20; (with_reducible refine (CB.out _ P7.out).mono ?_); rintro e w8 ⟨rfl, b8⟩; have V8 := Iv.step V7 b8; have P8 := Lib.hid (T0.out.below (Iv.b V8)))
              | fail)
            go_ret
            exact ⟨rfl, V8.b⟩
          · have u0 : ¬ (N : Int) = 0 := by omega
            subst h3 h4
            clear HW h1 h2
            go_wp2_with (first
              | (go_at_call 20; (with_reducible refine (CC.out _ P6.out).mono ?_); rintro e w7 ⟨rfl, b7⟩; have V7 := Iv.step V6 b7; have P7 := Lib.hid (T0.out.below (Iv.b V7)); have q7 := Iv.eqs V7; simp only [Cx] at q7; clear q6)
              | (go_at_call 20; (with_reducible refine (CB.out _ P7.out).mono ?_); rintro e w8 ⟨rfl, b8⟩; have V8 := Iv.step V7 b8; have P8 := Lib.hid (T0.out.below (Iv.b V8)))
              | fail)
            go_ret
            exact ⟨rfl, V8.b⟩
          · have u0 : ¬ (N : Int) = 0 := by omega
            subst h3 h4
            clear HW h1 h2
            go_wp2_with (first
              | (go_at_call 20; (with_reducible refine (CC.out _ P6.out).mono ?_); rintro e w7 ⟨rfl, b7⟩; have V7 := Iv.step V6 b7; have P7 := Lib.hid (T0.out.below (Iv.b V7)); have q7 := Iv.eqs V7; simp only [Cx] at q7; clear q6)
              | (go_at_call 20; (with_reducible refine (CB.out _ P7.out).mono ?_); rintro e w8 ⟨rfl, b8⟩; have V8 := Iv.step V7 b8; have P8 := Lib.hid (T0.out.below (Iv.b V8)))
              | fail)
            go_ret
            exact ⟨rfl, V8.b⟩
          · have u0 : (N : Int) = 0 := by omega
            have u1 : ¬ (M : Int) = 0 := by omega
            subst h3 h4
            clear HW h1 h2
            go_wp2_with (first
              | (go_at_call 20; (with_reducible refine (CC.out _ P6.out).mono ?_); rintro e w7 ⟨rfl, b7⟩; have V7 := Iv.step V6 b7; have P7 := Lib.hid (T0.out.below (Iv.b V7)); have q7 := Iv.eqs V7; simp only [Cx] at q7; clear q6)
              | (go_at_call 20; (with_reducible refine (CB.out _ P7.out).mono ?_); rintro e w8 ⟨rfl, b8⟩; have V8 := Iv.step V7 b8; have P8 := Lib.hid (T0.out.below (Iv.b V8)))
              | fail)
            go_ret
            exact ⟨rfl, V8.b⟩
          · have u0 : ¬ (N : Int) = 0 := by omega
            subst h3 h4
            clear HW h1
            go_wp2_with (first
              | (go_at_call 20; (with_reducible refine (CC.out _ P6.out).mono ?_); rintro e w7 ⟨rfl, b7⟩; have V7 := Iv.step V6 b7; have P7 := Lib.hid (T0.out.below (Iv.b V7)); have q7 := Iv.eqs V7; simp only [Cx] at q7; clear q6)
              | (go_at_call 20; (with_reducible refine (CB.out _ P7.out).mono ?_); rintro e w8 ⟨rfl, b8⟩; have V8 := Iv.step V7 b8; have P8 := Lib.hid (T0.out.below (Iv.b V8)))
              | fail)
            go_ret
            exact ⟨rfl, V8.b⟩
end Go.Proofs.YtcebgapabdpgdaaGreatDoor
namespace Go.Proofs.YtcebgapabdpgdaaGreatDoor
open Go.RowKit

theorem tenQ_text (k : Nat) : qv (some (tenQ k)) = rv (tenT k) ⟨#[49]⟩ := by
  show rv (dec (tenQ k).num) (dec ((tenQ k).den : Int)) = _
  rw [(tenQ_parts k).1, (tenQ_parts k).2, ← l1]; rfl
theorem one_text_q : qv (some (Rat.divInt 1 1)) = rv ⟨#[49]⟩ ⟨#[49]⟩ := by
  show rv (dec (Rat.divInt 1 1).num) (dec ((Rat.divInt 1 1).den : Int)) = _
  rw [one_tens.1, one_tens.2, ← l1]
theorem limits_walk (n m : Int) (n0 : -9223372036854775808 ≤ n) (n1 : n ≤ 9223372036854775807) (m0 : -9223372036854775808 ≤ m) (m1 : m ≤ 9223372036854775807) (w : World) (ht : Tab w)
    (hsane : ∀ W, Tab W → Calls Tryz.prog 11 #[] W fun e w' => e = .returned (.bool true) ∧ Below W.heap.size W w') :
    Calls Tryz.prog 10 #[.int .i64 n, .int .i64 m] w fun e w' => e = .returned (.bool true) ∧ Below w.heap.size w w' := by
  have a0 := pkI_lo (c := n) (n := 200) (by decide)
  have a1 := pkI_hi (c := n) (n := 200) (by decide)
  have b0 := pkI_lo (c := m) (n := 200) (by decide)
  have b1 := pkI_hi (c := m) (n := 200) (by decide)
  obtain ⟨N, hN⟩ : ∃ N : Nat, pkI n 200 = (N : Int) := ⟨(pkI n 200).toNat, by omega⟩
  obtain ⟨M, hM⟩ : ∃ M : Nat, pkI m 200 = (M : Int) := ⟨(pkI m 200).toNat, by omega⟩
  have hN2 : N < 200 := by omega
  have hM2 : M < 200 := by omega
  have cM := fun W (h : Tab W) => mul_q (tenQ_ok hN2) (tenQ_ok hM2) W h
  have cD := fun W (h : Tab W) => div_q (a := some (Rat.divInt 1 1)) (by decide +kernel) (tenQ_ok hM2) W h
  have cA := fun W (h : Tab W) => add_q (tenQ_ok hN2) (thQ_ok hM2) W h
  have cC := fun W (h : Tab W) => cmp_q (tenQ_ok hN2) (tenQ_ok hM2) W h
  have cB := fun W (h : Tab W) => cmp_q (tenQ_ok hN2) (thQ_ok hM2) W h
  rw [tenQ_text, tenQ_text] at cM cC
  rw [one_text_q, tenQ_text, lim_div hM2] at cD
  rw [tenQ_text] at cA cB
  refine lim_go n m n0 n1 m0 m1 w ht hsane N M hN hM hN2 hM2 _ _ _ _ _ _ _ _ _ _ cM cD cA cC cB ?_ ?_
  · rw [lim_mul, lim_add hM2]
    by_cases h : N + M + 1 ≤ 200
    · rw [if_pos h, if_pos h]; exact Or.inl ⟨rfl, rfl, by omega⟩
    · rw [if_neg h, if_neg h]; exact Or.inr ⟨rfl, rfl, rfl, rfl, by omega⟩
  · rw [lim_cmp1, lim_cmp2]
    rcases Nat.lt_trichotomy N M with h | h | h
    · rw [if_pos h, if_neg (by omega)]
      by_cases h0 : N = 0
      · exact Or.inr (Or.inr (Or.inr (Or.inl ⟨h, h0, rfl, rfl⟩)))
      · exact Or.inr (Or.inr (Or.inl ⟨h, by omega, rfl, rfl⟩))
    · rw [if_neg (by omega), if_neg (by omega)]
      by_cases h0 : N = 0
      · rw [if_pos ⟨h0, by omega⟩]; exact Or.inl ⟨h0, by omega, rfl, rfl⟩
      · rw [if_neg (by omega)]; exact Or.inr (Or.inl ⟨h, by omega, rfl, rfl⟩)
    · rw [if_neg (by omega), if_pos h, if_neg (by omega)]
      exact Or.inr (Or.inr (Or.inr (Or.inr ⟨h, rfl, rfl⟩)))
end Go.Proofs.YtcebgapabdpgdaaGreatDoor
