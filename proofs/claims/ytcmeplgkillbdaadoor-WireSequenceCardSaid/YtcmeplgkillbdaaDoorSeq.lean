/- The walk of dialtonelaw01.WireSequence. -/
import Derived.Test.YtcmeplgkillbdaaDoorUse
import Derived.RegionTactic
import Derived.BigQuiet
import Derived.Deep.QuietTactic
import Derived.StillTailTactics
import Derived.Deep.RegionHeld3
namespace Go.Proofs.YtcmeplgkillbdaaDoor
open Go.RowKit

def cutB (s : ByteArray) : ByteArray := s.extract 0 (min s.size 100)
theorem cutB_size (s : ByteArray) : (cutB s).size = min s.size 100 := ext_size s _ (by omega)
def pieceN (z : Nat → Int) (ts : Nat → ByteArray) (i : Nat) : List UInt8 := enc (numN (z i)) ++ (enc ((cutB (ts i)).size) ++ (cutB (ts i)).data.toList)
def preN (z : Nat → Int) (ts : Nat → ByteArray) : Nat → List UInt8
  | 0 => []
  | i + 1 => preN z ts i ++ pieceN z ts i
theorem piece_len (z : Nat → Int) (ts : Nat → ByteArray) (i : Nat) : (pieceN z ts i).length ≤ 118 := by
  have h1 := num_in (z i)
  have h2 := enc_len (numN (z i)) h1.1 h1.2
  have h3 := cutB_size (ts i)
  have h4 := enc_len ((cutB (ts i)).size) (by unfold maxInt; omega) (by unfold maxInt; omega)
  unfold pieceN
  rw [List.length_append, List.length_append, len_data]
  omega
theorem pre_len (z : Nat → Int) (ts : Nat → ByteArray) : ∀ i, (preN z ts i).length ≤ 118 * i
  | 0 => by simp [preN]
  | i + 1 => by
    have := pre_len z ts i
    have := piece_len z ts i
    unfold preN
    rw [List.length_append]; omega
theorem pre_rest (z : Nat → Int) (ts : Nat → ByteArray) (i : Nat) : ∀ k, ∃ r, preN z ts (i + k) = preN z ts i ++ r
  | 0 => ⟨[], by simp⟩
  | k + 1 => by
    obtain ⟨r, h⟩ := pre_rest z ts i k
    exact ⟨r ++ pieceN z ts (i + k), by rw [← Nat.add_assoc, preN, h, List.append_assoc]⟩
theorem min3 (a b : Nat) : ∃ n : Nat, n ≤ a ∧ n ≤ b ∧ n ≤ 20 ∧ (n = 0 → a = 0 ∨ b = 0) ∧
    ∀ w : World, (Builtin.min_ #[3, 3, 3] 3 #[.int .i64 a, .int .i64 b, .int .i64 20]).run Tryd.prog w = .ok (.int .i64 (n : Int)) w := by
  refine ⟨min (min a b) 20, by omega, by omega, by omega, by omega, fun w => ?_⟩
  simp only [Builtin.min_, List.foldlM_cons, List.foldlM_nil, Builtin.min2, pure_bind, bind_pure]
  simp only [Sem.run_pure]
  congr 2
  split <;> split <;> omega

set_option maxRecDepth 100000 in
set_option maxHeartbeats 4000000 in
theorem seq_walk (bl ol cl bt ot ct L T : Nat) (z : Nat → Int) (ts : Nat → ByteArray) (w : World) (htab : Tab w) (hsz : 0 < w.heap.size)
    (hbl : bl < w.heap.size) (hbt : bt < w.heap.size) (hz : ∀ i, i < L → w.cell? ⟨bl, ol + i, none⟩ = some (.int .i64 (z i))) (hts : ∀ i, i < T → w.cell? ⟨bt, ot + i, none⟩ = some (.string (ts i)))
    (zb : ∀ i, -9223372036854775808 ≤ z i ∧ z i ≤ 9223372036854775807) (tb : ∀ i, (ts i).size ≤ 9223372036854775807) (hL : L ≤ 9223372036854775807) (hT : T ≤ 9223372036854775807) :
    Calls Tryd.prog 6 #[.slice (some ⟨bl, ol, none⟩) L cl, .slice (some ⟨bt, ot, none⟩) T ct] w fun e w' => e = .returned (.bool true) ∧ Below w.heap.size w w' := by
  have HT := Lib.hid htab; have HZ := Lib.hid hz; have HTS := Lib.hid hts; have ZB := Lib.hid zb; have TB := Lib.hid tb; clear htab hz hts zb tb
  obtain ⟨n, n1, n2, n20, -, hmin⟩ := min3 L T
  go_enter Tryd.func6, Tryd.ntmps6
  go_wp2_with fail
  refine (sane_any _ HT.out hsz).mono ?_
  rintro e w1 ⟨rfl, b1⟩
  go_wp2_with fail
  go_loopw [7, 8] (fun s i wr => ∃ j : Nat, i = .int .i64 j ∧ j ≤ n ∧ s = .string ⟨(preN z ts j).toArray⟩ ∧ Below w.heap.size w wr) (fun _ i _ => n - (intOf i).toNat)
  case atStart => exact ⟨0, rfl, by omega, rfl, b1⟩
  case round =>
    obtain ⟨j, rfl, hj, rfl, hbr⟩ := hrel
    clear hmin
    by_cases hlt : j < n
    · have c1 := (hbr.cell (p := ⟨bl, ol + j, none⟩) hbl).trans (HZ.out j (by omega))
      have zj := ZB.out j
      have tj := TB.out j
      obtain ⟨S, hS⟩ : ∃ S : ByteArray, S = ⟨(preN z ts j).toArray⟩ := ⟨_, rfl⟩
      rw [← hS]
      have kS : S.size ≤ 118 * j := by rw [hS, size_arr]; exact pre_len z ts j
      have HS := Lib.hid hS; clear hS
      go_wp2_with fail
      refine (number_any _ (by omega) (by omega) _).mono ?_
      rintro e w2 ⟨rfl, b2⟩
      have hn := num_in (z j)
      go_wp2_with fail
      refine (putInt_any _ (by omega) (by omega) _).mono ?_
      have hA := enc_len (numN (z j)) hn.1 hn.2
      obtain ⟨A, eA⟩ : ∃ A : ByteArray, A = ⟨(enc (numN (z j))).toArray⟩ := ⟨_, rfl⟩
      have kA : A.size ≤ 9 := by rw [eA, size_arr]; exact hA.2
      rw [putInt_in hn, ← eA]
      rintro e w3 ⟨rfl, b3⟩
      have EA := Lib.hid eA; clear eA hA
      have q2 := hbr.trans (b2.mono hbr.size)
      have q3 := q2.trans (b3.mono q2.size)
      obtain ⟨X, hX⟩ : ∃ X, X = ts j := ⟨_, rfl⟩
      have c2 := (q3.cell (p := ⟨bt, ot + j, none⟩) hbt).trans (HTS.out j (by omega))
      rw [← hX] at c2 tj
      obtain ⟨M, M1, M2, M3, hM⟩ := min_if X 100 (by omega)
      obtain ⟨Y, hY⟩ : ∃ Y, X.extract 0 M = Y := ⟨_, rfl⟩
      have hj0 : (0 : Int) ≤ (j : Int) := by omega
      have hj1 : (j : Int) < (T : Int) := by omega
      have kY : Y.size ≤ 100 := by rw [← hY]; simp; omega
      have hB := enc_len Y.size (by unfold maxInt; omega) (by unfold maxInt; omega)
      obtain ⟨B, eB⟩ : ∃ B : ByteArray, B = ⟨(enc Y.size ++ Y.data.toList).toArray⟩ := ⟨_, rfl⟩
      have kB : B.size ≤ 109 := by rw [eB, size_arr, List.length_append, len_data]; omega
      have EB := Lib.hid eB; clear eB hB
      have HX := Lib.hid hX; have HM3 := Lib.hid M3
      clear hX M3 c1
      go_wp2_with fail
      go_region_held3 (fun w' => w'.cell? ⟨bt, ot + j, none⟩ = some (.string X)) (first | go_keep | exact (Below.cell b4 (World.block_lt_of_cell? _ _ (by assumption))).trans (by assumption))
        (first | (go_at_call 19; refine (putString_any Y (by omega) _).mono ?_; rw [putString_in (s := Y) (by omega), ← EB.out]; rintro e w4 ⟨rfl, b4⟩))
      go_wp2
      go_roundw
      case rel =>
        refine ⟨j + 1, by go_num, by omega, ?_, q3.drew.trans (b4.mono q3.size)⟩
        have hYc : Y = cutB (ts j) := by
          rw [← hY, cutB, ← HX.out]
          congr 1
          have := HM3.out; omega
        rw [HS.out, EA.out, EB.out, ByteArray.mk_append_mk, ByteArray.mk_append_mk, hYc, preN, pieceN, List.append_assoc]
      case measure => simp [intOf]; omega
    · obtain rfl : j = n := by omega
      obtain ⟨S, hS⟩ : ∃ S : ByteArray, S = ⟨(preN z ts j).toArray⟩ := ⟨_, rfl⟩
      rw [← hS]
      have sS : S.size = (preN z ts j).length := by rw [hS, size_arr]
      have kS : S.size ≤ 118 * j := by rw [sS]; exact pre_len z ts j
      have HS := Lib.hid hS; have HSS := Lib.hid sS; clear hS sS hlt
      obtain ⟨w2, rfl⟩ : ∃ x, x = wr := ⟨_, rfl⟩
      go_wp2_with fail
      go_loopw [13, 14] (fun p i wr => ∃ k q : Nat, i = .int .i64 k ∧ k ≤ j ∧ p = .int .i64 q ∧ q = (preN z ts k).length ∧ Below w.heap.size w wr) (fun _ i _ => j - (intOf i).toNat)
      case atStart => exact ⟨0, 0, rfl, by omega, rfl, rfl, hbr⟩
      case round =>
        obtain ⟨k, q, rfl, hk, rfl, hq, hbs⟩ := hrel
        clear hbr
        by_cases hlt : k < j
        · have c1 := (hbs.cell (p := ⟨bl, ol + k, none⟩) hbl).trans (HZ.out k (by omega))
          have c2 := (hbs.cell (p := ⟨bt, ot + k, none⟩) hbt).trans (HTS.out k (by omega))
          have zj := ZB.out k
          have tj := TB.out k
          have hn := num_in (z k)
          obtain ⟨X, hX⟩ : ∃ X, X = ts k := ⟨_, rfl⟩
          rw [← hX] at c2 tj
          obtain ⟨M, M1, M2, M3, hM⟩ := min_if X 100 (by omega)
          obtain ⟨Y, hY⟩ : ∃ Y, X.extract 0 M = Y := ⟨_, rfl⟩
          have kY : Y.size ≤ 100 := by rw [← hY]; simp; omega
          have hYc : Y = cutB (ts k) := by
            rw [← hY, cutB, ← hX]
            congr 1
            omega
          obtain ⟨r, hr⟩ := pre_rest z ts (k + 1) (j - (k + 1))
          rw [show k + 1 + (j - (k + 1)) = j by omega] at hr
          have hl1 : S.data.toList = preN z ts k ++ enc (numN (z k)) ++ (enc Y.size ++ Y.data.toList ++ r) := by
            rw [HS.out, hYc]; show preN z ts j = _
            rw [hr, preN, pieceN]; simp [List.append_assoc]
          have hl2 : S.data.toList = (preN z ts k ++ enc (numN (z k))) ++ (enc (Y.data.toList.length) ++ Y.data.toList) ++ r := by
            rw [hl1, len_data]; simp [List.append_assoc]
          have i1 := intS_enc (numN (z k)) hn.1 hn.2 (preN z ts k) (enc Y.size ++ Y.data.toList ++ r)
          rw [← hl1, ← hq] at i1
          have i2 := stringS_enc Y.data.toList (preN z ts k ++ enc (numN (z k))) r (by rw [len_data]; omega)
          rw [← hl2] at i2
          obtain ⟨nx, hnx⟩ : ∃ nx : Nat, nx = q + (enc (numN (z k))).length := ⟨_, rfl⟩
          obtain ⟨en, hen⟩ : ∃ en : Nat, en = (preN z ts (k + 1)).length := ⟨_, rfl⟩
          have i1' : intS S.data.toList (q : Int) = (numN (z k), (nx : Int), 0) := by rw [i1, hnx]; simp
          have i2' : stringS S.data.toList (nx : Int) = (Y.data.toList, (en : Int), 0) := by
            have e1 : (nx : Int) = ((preN z ts k ++ enc (numN (z k))).length : Int) := by rw [List.length_append]; omega
            rw [e1, i2, hen, preN, pieceN, ← hYc]
            simp [len_data]; omega
          have hq1 : q ≤ 118 * k := by rw [hq]; exact pre_len z ts k
          have hA := enc_len (numN (z k)) hn.1 hn.2
          have hnx1 : nx ≤ 118 * k + 9 := by omega
          have I1 := Lib.hid i1'; have I2 := Lib.hid i2'; have HE := Lib.hid hen
          have hk0 : (0 : Int) ≤ (k : Int) := by omega
          have hk1 : (k : Int) < (T : Int) := by omega
          have hk2 : (k : Int) < (L : Int) := by omega
          clear i1 i2 i1' i2' hl1 hl2 hr hnx hen hX hYc M3 hA hq
          go_wp2_with fail
          refine (int_any _ _ (by omega) (by omega) (by omega) _).mono ?_
          rw [I1.out]; rintro e w3 ⟨rfl, rfl⟩; dsimp only [intV]
          go_wp2_with fail
          refine (string_any _ _ (by omega) (by omega) (by omega) _).mono ?_
          rw [I2.out]; rintro e w4 ⟨rfl, b4⟩; dsimp only [strV]
          have q4 := hbs.trans (b4.mono hbs.size)
          have d1 := (b4.cell (p := ⟨bl, ol + k, none⟩) (Nat.lt_of_lt_of_le hbl hbs.size)).trans c1
          have d2 := (b4.cell (p := ⟨bt, ot + k, none⟩) (Nat.lt_of_lt_of_le hbt hbs.size)).trans c2
          clear c1 c2
          go_wp2_with fail
          go_region_held3 (fun w' => w'.cell? ⟨bl, ol + k, none⟩ = some (.int .i64 (z k)) ∧ w'.cell? ⟨bt, ot + k, none⟩ = some (.string X)) (first | go_keep | exact ⟨(Below.cell b5 (World.block_lt_of_cell? _ _ (by assumption))).trans (by assumption), (Below.cell b5 (World.block_lt_of_cell? _ _ (by assumption))).trans (by assumption)⟩)
            (first | (go_at_call 11; refine (number_any _ (by omega) (by omega) _).mono ?_; rintro e w5 ⟨rfl, b5⟩))
          go_wp2
          go_roundw
          case rel => exact ⟨k + 1, en, by go_num, by omega, rfl, HE.out, q4.drew.trans (b5.mono q4.size)⟩
          case measure => simp [intOf]; omega
        · obtain rfl : k = j := by omega
          have hq2 : q = S.size := by rw [HSS.out, hq]
          have i3 : intS S.data.toList (q : Int) = (0, 0, 10) := by
            rw [intS, if_neg (by rw [len_data]; omega), Int.toNat_natCast, List.drop_of_length_le (by rw [len_data]; omega), ung_end]
          have I3 := Lib.hid i3; clear i3 hq
          subst hq2
          go_wp2_with fail
          refine (int_any _ _ (by omega) (by omega) (by omega) _).mono ?_
          rw [I3.out]; rintro e w3 ⟨rfl, rfl⟩; dsimp only [intV]
          go_wp2
          go_ret
          exact ⟨by simp, hbs⟩

set_option maxRecDepth 100000 in
set_option maxHeartbeats 1000000 in
theorem seq_none (la : Option Addr) (cl : Nat) (ta : Option Addr) (ct L T : Nat) (w : World) (htab : Tab w) (hsz : 0 < w.heap.size) (hL : L ≤ 9223372036854775807) (hT : T ≤ 9223372036854775807) (h0 : L = 0 ∨ T = 0) :
    Calls Tryd.prog 6 #[.slice la L cl, .slice ta T ct] w fun e w' => e = .returned (.bool true) ∧ Below w.heap.size w w' := by
  have HT := Lib.hid htab; clear htab
  obtain ⟨n, n1, n2, n20, -, hmin⟩ := min3 L T
  obtain rfl : n = 0 := by omega
  go_enter Tryd.func6, Tryd.ntmps6
  go_wp2_with fail
  refine (sane_any _ HT.out hsz).mono ?_
  rintro e w1 ⟨rfl, b1⟩
  go_wp2_with fail
  refine wp_loop_rounds 1 ?_
  rw [rounds_succ]
  go_wp2_with fail
  refine wp_loop_rounds 1 ?_
  rw [rounds_succ]
  go_wp2_with fail
  refine (int_any _ _ (by omega) (by omega) (by decide) _).mono ?_
  rw [show intS (⟨#[]⟩ : ByteArray).data.toList 0 = (0, 0, 10) by decide +kernel]; rintro e w3 ⟨rfl, rfl⟩; dsimp only [intV]
  go_wp2
  go_ret
  exact ⟨rfl, b1⟩
end Go.Proofs.YtcmeplgkillbdaaDoor
