/- The walk of dialtonelaw01.WireSumBurst. -/
import Derived.Test.YtcmeplgkillbdaaDoorBurst
import Derived.Test.YtcmeplgkillbdaaDoorAff
namespace Go.Proofs.YtcmeplgkillbdaaDoor
open Go.RowKit

/-- Block g is a row of bytes, cell i holding 'f i' for i below n; a mark behind its last cell. -/
def MRow (w : World) (g n : Nat) (f : Nat → Value) : Prop := ∃ (C : Array Value) (m : Nat), w.heap[g]? = some (.cells C 5 (m, m + 1)) ∧ C.size = m ∧ n ≤ m ∧ ∀ i, i < n → C[i]? = some (f i)
section
variable {w : World} {g n : Nat} {f h : Nat → Value}
theorem MRow.cell (r : MRow w g n f) {i : Nat} (hi : i < n) : w.cell? ⟨g, i, none⟩ = some (f i) := by
  obtain ⟨C, m, hb, _, _, hc⟩ := r
  simp [World.cell?, hb, hc i hi]
theorem MRow.frozen (r : MRow w g n f) {i : Nat} (hi : i < n) : w.frozen? ⟨g, i, none⟩ = false := by
  obtain ⟨C, m, hb, _, hm, _⟩ := r
  simp [World.frozen?, hb]; omega
theorem MRow.congr (r : MRow w g n f) (e : ∀ i, i < n → f i = h i) : MRow w g n h := by
  obtain ⟨C, m, hb, h1, h2, hc⟩ := r
  exact ⟨C, m, hb, h1, h2, fun i hi => by rw [hc i hi, e i hi]⟩
theorem MRow.drew (r : MRow w g n f) : MRow w.drew g n f := r
theorem MRow.set_ (r : MRow w g n f) (i : Nat) (v : Value) : MRow (w.setCell ⟨g, i, none⟩ v) g n (fun j => if j = i then v else f j) := by
  obtain ⟨C, m, hb, h1, h2, hc⟩ := r
  refine ⟨C.setIfInBounds i v, m, ?_, by simpa using h1, h2, fun j hj => ?_⟩
  · simp [World.setCell, Array.getElem?_modify, hb]
  · rw [Array.getElem?_setIfInBounds]
    by_cases e : j = i
    · subst e
      simp [h1, show j < m by omega]
    · rw [if_neg (fun h => e h.symm)]
      show C[j]? = some (if j = i then v else f j)
      rw [if_neg e]
      exact hc j hj
end

def qN (B i fr : Nat) : Nat := B % 2 ^ i * 2 ^ fr
theorem qN_zero (B fr : Nat) : qN B 0 fr = 0 := by simp [qN, Nat.mod_one]
theorem qN_same {B i fr : Nat} (h : B / 2 ^ i % 2 = 0) : qN B (i + 1) fr = qN B i fr := by
  unfold qN; rw [Nat.mod_pow_succ, h]; simp
theorem qN_bit {B i fr : Nat} (h : B / 2 ^ i % 2 = 1) (m : Nat) : qN B (i + 1) fr / 256 ^ m % 256 = (qN B i fr / 256 ^ m % 256) ^^^ (if m = (fr + i) / 8 then 2 ^ ((fr + i) % 8) else 0) := by
  have hlt : qN B i fr < 2 ^ (fr + i) := by
    unfold qN
    rw [Nat.pow_add, Nat.mul_comm]
    exact Nat.mul_lt_mul_of_pos_left (Nat.mod_lt _ (Nat.two_pow_pos i)) (Nat.two_pow_pos fr)
  have e : qN B (i + 1) fr = 2 ^ (fr + i) * 1 + qN B i fr := by
    unfold qN; rw [Nat.mod_pow_succ, h, Nat.pow_add, Nat.add_mul]; simp [Nat.mul_comm, Nat.add_comm]
  rw [e, Nat.two_pow_add_eq_or_of_lt hlt, pow256, show (256 : Nat) = 2 ^ 8 by decide]
  apply Nat.eq_of_testBit_eq
  intro t
  rw [Nat.testBit_xor, Nat.testBit_mod_two_pow, Nat.testBit_mod_two_pow, Nat.testBit_div_two_pow, Nat.testBit_div_two_pow, Nat.testBit_or]
  by_cases ht : t < 8
  · by_cases hm : m = (fr + i) / 8
    · by_cases h2 : t = (fr + i) % 8
      · have hz : (qN B i fr).testBit (t + 8 * m) = false := Nat.testBit_lt_two_pow (by rw [show t + 8 * m = fr + i by omega]; exact hlt)
        rw [hz]
        simp [hm, h2, Nat.testBit_two_pow]
        omega
      · simp [ht, hm, Nat.testBit_two_pow, show ¬ (fr + i) % 8 = t by omega, show ¬ fr + i = t + 8 * ((fr + i) / 8) by omega]
    · simp [ht, hm, Nat.testBit_two_pow]
      intro h3; omega
  · have : (if m = (fr + i) / 8 then 2 ^ ((fr + i) % 8) else 0).testBit t = false := by
      split
      · rw [Nat.testBit_two_pow]; simp; omega
      · simp
    rw [this]; simp [ht]

theorem empty_of_size {s : ByteArray} (h : s.size = 0) : s = ByteArray.empty := by
  apply ByteArray.ext
  have h2 : s.data.size = 0 := h
  exact Array.eq_empty_of_size_eq_zero h2
theorem xor_bit (old t : Nat) (h : old < 256) (ht : t < 8) : bits .xor .u8 (old : Int) (2 ^ t % 256) = ((old ^^^ 2 ^ t : Nat) : Int) := by
  have hp : 2 ^ t < 256 := by
    have := Nat.pow_lt_pow_right (a := 2) (by omega) ht
    simpa using this
  have hc : ((2 ^ t : Nat) : Int) = (2 : Int) ^ t := by rw [Int.natCast_pow]; rfl
  rw [← hc]
  generalize 2 ^ t = p at *
  rw [show ((p : Int) % 256) = (p : Int) by omega, u8_xor_nat _ _ h hp]
theorem bit_int (B j : Nat) : ((B : Int) / 2 ^ j).tmod 2 = ((B / 2 ^ j % 2 : Nat) : Int) := by
  have e : ((B : Int) / 2 ^ j) = ((B / 2 ^ j : Nat) : Int) := by rw [Int.natCast_ediv, Int.natCast_pow]; rfl
  rw [e, Int.tmod_eq_emod_of_nonneg (Int.natCast_nonneg _)]; rfl
theorem bit_test {B j : Nat} (h : B / 2 ^ j % 2 = 1) : (((B : Int) / 2 ^ j).tmod 2 == 1) = true := by rw [bit_int, h]; rfl
theorem bit_test0 {B j : Nat} (h : B / 2 ^ j % 2 = 0) : (((B : Int) / 2 ^ j).tmod 2 == 1) = false := by rw [bit_int, h]; rfl
set_option maxRecDepth 100000 in
set_option maxHeartbeats 2000000 in
theorem bur_walk (s : ByteArray) (hs : s.size ≤ 9223372036854775807) (k : Int) (k1 : -9223372036854775808 ≤ k) (k2 : k ≤ 9223372036854775807) (B : Nat) (hB : B < 4294967296)
    (w : World) (htab : Tab w) (hsz : 0 < w.heap.size) :
    Calls Tryd.prog 8 #[.string s, .int .i64 k, .int .u32 B] w fun e w' => e = .returned (.bool true) ∧ Below w.heap.size w w' := by
  have HT := Lib.hid htab; clear htab
  obtain ⟨T, hT1, hT2, hT3, hT⟩ := min_if s 300 (by omega)
  obtain ⟨S, hS⟩ : ∃ S, s.extract 0 T = S := ⟨_, rfl⟩
  have sS : S.size = T := by rw [← hS]; exact ext_size s T hT1
  have kS : S.size ≤ 300 := by omega
  have HT3 := Lib.hid hT3; clear hT3
  go_enter Tryd.func8, Tryd.ntmps8
  go_wp2_with fail
  refine (sane_any _ HT.out hsz).mono ?_
  rintro e w1 ⟨rfl, b1⟩
  have hbs := run_bytes_of_string (P := Tryd.prog) w1 9 38 5 S Tryd.underlying9 Tryd.underlying38 Tryd.underlying5
  by_cases hz : S.size = 0
  · have z0 : T = 0 := by omega
    have hT3 := HT3.out
    subst z0
    have hse : s = ByteArray.empty := empty_of_size (by omega)
    subst hse
    have hbe := run_bytes_of_string (P := Tryd.prog) w1 9 38 5 ByteArray.empty Tryd.underlying9 Tryd.underlying38 Tryd.underlying5
    rw [show ByteArray.empty.size = 0 from rfl] at hbe
    clear hbs hS sS hz hT hT3
    go_wp2
    go_ret
    exact ⟨rfl, (b1.alloc b1.size _).drew⟩
  · by_cases hB0 : B = 0
    · subst hB0
      have z1 : ((S.size : Int) == 0) = false := by rw [beq_eq_false_iff_ne]; omega
      go_wp2
      go_ret
      exact ⟨rfl, (b1.alloc b1.size _).drew⟩
    · have z1 : ((S.size : Int) == 0) = false := by rw [beq_eq_false_iff_ne]; omega
      have z2 : ((B : Int) == 0) = false := by rw [beq_eq_false_iff_ne]; omega
      go_wp2_with fail
      have r0 : MRow (w1.alloc (.cells (bytesRow S (grownCap w1 T 0 5)) 5 ((bytesRow S (grownCap w1 T 0 5)).size, (bytesRow S (grownCap w1 T 0 5)).size + 1))).drew w1.heap.size T (fun i => .int .u8 ((S.data.toList.getD i 0).toNat : Int)) := by
        have hd : S.data.size = T := sS
        refine ⟨_, _, World.alloc_heap_new w1 _, rfl, by unfold bytesRow; rw [Array.size_append, Array.size_map]; omega, fun i hi => ?_⟩
        have hi' : i < S.data.size := by omega
        unfold bytesRow
        rw [Array.getElem?_append_left (by simpa using hi')]
        simp [List.getD_eq_getElem?_getD, Array.getElem?_eq_getElem hi']
      have q1 : Below w1.heap.size w1 (w1.alloc (.cells (bytesRow S (grownCap w1 T 0 5)) 5 ((bytesRow S (grownCap w1 T 0 5)).size, (bytesRow S (grownCap w1 T 0 5)).size + 1))).drew := ((Below.refl _ _).alloc (Nat.le_refl _) _).drew
      generalize (w1.alloc (.cells (bytesRow S (grownCap w1 T 0 5)) 5 ((bytesRow S (grownCap w1 T 0 5)).size, (bytesRow S (grownCap w1 T 0 5)).size + 1))).drew = w2 at *
      generalize grownCap w1 T 0 5 = cap at *
      have pK := pickN_in k (8 * T) (by omega)
      obtain ⟨fr, hfr⟩ := Int.eq_ofNat_of_zero_le pK.1
      have hfrlt : fr < 8 * T := by omega
      have HF := Lib.hid hfr; clear hfr pK hbs
      refine (pick_any _ _ _ (by omega) (by omega) (by omega) (by omega)).mono ?_
      rw [HF.out]
      rintro e w3 ⟨rfl, rfl⟩
      have HSS := Lib.hid sS; clear sS
      go_wp2_with fail
      go_loopw [10, 11, 12] (fun ch i _ wr => ∃ j : Nat, i = .int .i64 j ∧ j ≤ 32 ∧ fr + j ≤ 8 * T ∧ ch = .bool (!decide (B % 2 ^ j = 0)) ∧ MRow wr w1.heap.size T (fun m => .int .u8 (((S.data.toList.getD m 0).toNat ^^^ (qN B j fr / 256 ^ m % 256) : Nat) : Int)) ∧ Below w1.heap.size w1 wr) (fun _ i _ _ => 32 - (intOf i).toNat)
      case atStart => exact ⟨0, rfl, by omega, by omega, by simp [Nat.mod_one], r0.congr (fun i _ => by simp [qN_zero]), q1⟩
      case round =>
        obtain ⟨j, rfl, hj, hfj, rfl, hrow, hbr⟩ := hrel
        by_cases hgo : j < 32 ∧ fr + j < 8 * T
        · obtain ⟨h32, hend⟩ := hgo
          clear r0
          by_cases hbit : B / 2 ^ j % 2 = 1
          · have hb1 : (((B : Int) / 2 ^ j).tmod 2 == 1) = true := bit_test hbit
            have hm8 : (fr + j) / 8 < T := by omega
            obtain ⟨old, hold⟩ : ∃ old : Nat, old = (S.data.toList.getD ((fr + j) / 8) 0).toNat ^^^ (qN B j fr / 256 ^ ((fr + j) / 8) % 256) := ⟨_, rfl⟩
            have hcell := hrow.cell hm8
            rw [← hold] at hcell
            have hfree := hrow.frozen hm8
            have hold8 : old < 256 := by
              rw [hold]
              exact Nat.xor_lt_two_pow (n := 8) (by have := (S.data.toList.getD ((fr + j) / 8) 0).toNat_lt; omega) (by omega)
            have HR := Lib.hid hrow; have HO := Lib.hid hold; have HB := Lib.hid hbit; clear hrow hold hbit
            go_wp2_with fail
            go_region
            go_wp2
            go_roundw
            case rel =>
              have hne : ¬ B % 2 ^ (j + 1) = 0 := by
                have := Nat.two_pow_pos j
                rw [Nat.mod_pow_succ, HB.out]; omega
              refine ⟨j + 1, by go_num, by omega, by omega, by simp [hne], ?_, (hbr.setCell (p := ⟨w1.heap.size, (fr + j) / 8, none⟩) (Nat.le_refl _) _).drew⟩
              refine (HR.out.set_ ((fr + j) / 8) _).drew.congr (fun m hm => ?_)
              rw [xor_bit old ((fr + j) % 8) hold8 (by omega), qN_bit HB.out]
              by_cases h : m = (fr + j) / 8
              · subst h; simp only [if_true]; rw [HO.out, Nat.xor_assoc]
              · simp [h]
            case measure => simp [intOf]; omega
          · have hb1 : (((B : Int) / 2 ^ j).tmod 2 == 1) = false := bit_test0 (by omega)
            have HB := Lib.hid hbit; have HR := Lib.hid hrow; clear hrow hbit
            go_wp2
            go_roundw
            case rel => exact ⟨j + 1, by go_num, by omega, by omega, by rw [Nat.mod_pow_succ, show B / 2 ^ j % 2 = 0 by have := HB.out; omega]; simp, by rw [qN_same (by have := HB.out; omega)]; exact HR.out, hbr⟩
            case measure => simp [intOf]; omega
        · obtain ⟨X, hX⟩ : ∃ X : ByteArray, X = ⟨(List.zipWith (· ^^^ ·) S.data.toList (patch T (B % 2 ^ j * 2 ^ fr))).toArray⟩ := ⟨_, rfl⟩
          have hd : S.data.size = T := HSS.out
          have sX : X.size = T := by rw [hX, size_arr]; simp [patch, hd]
          have hconv : ∀ nq, (convert 38 9 (.slice (some ⟨w1.heap.size, 0, none⟩) T cap)).run Tryd.prog (wr.drewN nq) = .ok (.string X) (wr.drewN nq) := by
            intro nq
            have := run_convert_bytes_back (P := Tryd.prog) (wr.drewN nq) 38 9 5 ⟨w1.heap.size, 0, none⟩ cap X.data.toList Tryd.underlying38 Tryd.underlying5 Tryd.underlying9 (by
              intro i hi
              rw [len_data, sX] at hi
              have hi' : i < S.data.toList.length := by rw [len_data]; have := HSS.out; omega
              rw [add_head]
              refine (hrow.cell hi).trans ?_
              simp [hX, patch, qN, List.getD_eq_getElem?_getD, List.getElem?_eq_getElem hi', UInt8.toNat_ofNat'])
            rw [len_data, sX] at this
            exact this
          have hP : B % 2 ^ j < 2 ^ j := Nat.mod_lt _ (Nat.two_pow_pos j)
          have hburst := burst S.data.toList T fr (8 * T - fr) (B % 2 ^ j) (by simpa using hd) (by omega) (Nat.lt_of_lt_of_le hP (Nat.pow_le_pow_right (by omega) (by omega))) (Nat.lt_of_le_of_lt (Nat.mod_le _ _) hB)
          have hXl : X.data.toList = List.zipWith (· ^^^ ·) S.data.toList (patch T (B % 2 ^ j * 2 ^ fr)) := by rw [hX]
          rw [← hXl] at hburst
          have hinj : crc X.data.toList = crc S.data.toList ↔ B % 2 ^ j = 0 := by
            rw [← hburst, crc_nat, crc_nat]
            constructor
            · intro h; apply BitVec.eq_of_toNat_eq; omega
            · intro h; rw [h]
          have ht1 : Tab w1 := HT.out.below b1 hsz
          have ht2 := Lib.hid (ht1.below hbr (Nat.lt_of_lt_of_le hsz b1.size))
          have kX : X.size ≤ 300 := by omega
          have kS2 : S.size ≤ 300 := kS
          have hend : Below w.heap.size w wr := b1.trans (hbr.mono b1.size)
          obtain ⟨P, hPn⟩ : ∃ P, P = B % 2 ^ j := ⟨_, rfl⟩
          rw [← hPn] at hinj
          have HP := Lib.hid hPn
          have HD := Lib.hid hend
          clear hrow hX hXl hburst hP sX hd hbr b1 hend r0 q1 hT
          by_cases hp0 : P = 0
          · have g1 : (crc X.data.toList == crc S.data.toList) = true := by rw [beq_iff_eq]; exact hinj.2 hp0
            have g3 : (crc X.data.toList != crc S.data.toList) = false := by rw [bne, g1]; rfl
            have g2 : decide (B % 2 ^ j = 0) = true := by rw [← hPn, hp0]; rfl
            clear hinj hp0 hPn
            by_cases hj32 : j < 32
            all_goals
              first | (have hx : ¬ fr + j < 8 * T := by omega) | skip
              clear hgo
              go_wp2_with fail
              go_quiet ((go_at_call 21; exact Calls.quiet_of_same (sum_q _ (by omega) _ (tab_drewN ht2.out))))
              go_wp2
              go_ret
              exact ⟨by simp, below_drewN HD.out _⟩
          · have g1 : (crc X.data.toList == crc S.data.toList) = false := by rw [beq_eq_false_iff_ne]; exact fun h => hp0 (hinj.1 h)
            have g3 : (crc X.data.toList != crc S.data.toList) = true := by rw [bne, g1]; rfl
            have g2 : decide (B % 2 ^ j = 0) = false := by rw [← hPn]; simpa using hp0
            clear hinj hp0 hPn
            by_cases hj32 : j < 32
            all_goals
              first | (have hx : ¬ fr + j < 8 * T := by omega) | skip
              clear hgo
              go_wp2_with fail
              go_quiet ((go_at_call 21; exact Calls.quiet_of_same (sum_q _ (by omega) _ (tab_drewN ht2.out))))
              go_wp2
              go_ret
              exact ⟨by simp, below_drewN HD.out _⟩
end Go.Proofs.YtcmeplgkillbdaaDoor
