/- The schedule of a block: digest.schedule returns the 64 words of the mathematics' text. -/
import Derived.Test.YtjcamhekhfokhaaDoorMem
import Derived.RegionTactic
import Derived.BigRegion
import Derived.StillTailTactics
import Derived.Deep.Cut
import Derived.OwnWalk
namespace Go.Proofs.YtjcamhekhfokhaaDoor
open Go.RowKit

def blkA (b : List UInt8) : Array Value := (b.map fun x => Value.int .u8 (x.toNat : Int)).toArray
def wA (l : List Nat) : Array Value := (l.map fun x : Nat => Value.int .u32 (x : Int)).toArray
theorem blkA_at (b : List UInt8) (i : Nat) (h : i < b.length) : (blkA b)[i]? = some (.int .u8 (byteN b i : Int)) := by
  simp [blkA, byteN, h, List.getD_eq_getElem?_getD]
theorem byteN_lt (b : List UInt8) (i : Nat) : byteN b i < 256 := by unfold byteN; exact (b.getD i 0).toNat_lt

theorem sched_len (b : List UInt8) : ∀ k, (sched b k).length = k
  | 0 => rfl
  | k + 1 => by rw [sched, List.length_append, sched_len b k]; rfl

theorem wrap_u32 {a : Int} (h0 : 0 ≤ a) (h1 : a < 4294967296) : IntKind.u32.wrap a = a := by rw [IntKind.wrap_u32']; omega
theorem or4 (y0 y1 y2 y3 : Nat) (m0 : y0 < 4294967296) (m1 : y1 < 4294967296) (m2 : y2 < 4294967296) (m3 : y3 < 4294967296) :
    bits .or .u32 (bits .or .u32 (bits .or .u32 (y0 : Int) (y1 : Int)) (y2 : Int)) (y3 : Int) = ((y0 ||| y1 ||| y2 ||| y3 : Nat) : Int) := by
  rw [u32_or_nat y0 y1 m0 m1, u32_or_nat _ y2 (or_lt m0 m1) m2, u32_or_nat _ y3 (or_lt (or_lt m0 m1) m2) m3]
set_option maxRecDepth 20000 in
theorem word_bits (b : List UInt8) (i p0 p1 p2 p3 : Nat) (h0 : p0 = 4 * i) (h1 : p1 = p0 + 1) (h2 : p2 = p0 + 2) (h3 : p3 = p0 + 3) :
    bits .or .u32 (bits .or .u32 (bits .or .u32 ((byteN b p0 : Int) * 16777216) ((byteN b p1 : Int) * 65536)) ((byteN b p2 : Int) * 256)) (byteN b p3 : Int) = (wordN b i : Int) := by
  subst h0 h1 h2 h3
  have l0 := byteN_lt b (4 * i)
  have l1 := byteN_lt b (4 * i + 1)
  have l2 := byteN_lt b (4 * i + 2)
  have l3 := byteN_lt b (4 * i + 3)
  unfold wordN
  generalize byteN b (4 * i) = x0 at *
  generalize byteN b (4 * i + 1) = x1 at *
  generalize byteN b (4 * i + 2) = x2 at *
  generalize byteN b (4 * i + 3) = x3 at *
  have e0 : (x0 : Int) * 16777216 = ((x0 * 16777216 : Nat) : Int) := by omega
  have e1 : (x1 : Int) * 65536 = ((x1 * 65536 : Nat) : Int) := by omega
  have e2 : (x2 : Int) * 256 = ((x2 * 256 : Nat) : Int) := by omega
  have m0 : x0 * 16777216 < 4294967296 := Nat.lt_of_le_of_lt (Nat.mul_le_mul_right _ (show x0 ≤ 255 by omega)) (by decide)
  have m1 : x1 * 65536 < 4294967296 := Nat.lt_of_le_of_lt (Nat.mul_le_mul_right _ (show x1 ≤ 255 by omega)) (by decide)
  have m2 : x2 * 256 < 4294967296 := Nat.lt_of_le_of_lt (Nat.mul_le_mul_right _ (show x2 ≤ 255 by omega)) (by decide)
  have m3 : x3 < 4294967296 := by omega
  rw [e0, e1, e2]
  exact or4 _ _ _ _ m0 m1 m2 m3
theorem sg0_bits (x : Nat) (h : x < 4294967296) : bits .xor .u32 (bits .xor .u32 (rotr x 7 : Int) (rotr x 18 : Int)) ((x : Int) / 8) = (sg0 x : Int) := by
  have e : (x : Int) / 8 = ((x / 8 : Nat) : Int) := by omega
  have h1 := rotr_lt x 7 h
  have h2 := rotr_lt x 18 h
  rw [e, u32_xor_nat _ _ h1 h2, u32_xor_nat _ _ (xor_lt h1 h2) (by omega)]; rfl
theorem sg1_bits (x : Nat) (h : x < 4294967296) : bits .xor .u32 (bits .xor .u32 (rotr x 17 : Int) (rotr x 19 : Int)) ((x : Int) / 1024) = (sg1 x : Int) := by
  have e : (x : Int) / 1024 = ((x / 1024 : Nat) : Int) := by omega
  have h1 := rotr_lt x 17 h
  have h2 := rotr_lt x 19 h
  rw [e, u32_xor_nat _ _ h1 h2, u32_xor_nat _ _ (xor_lt h1 h2) (by omega)]; rfl
theorem sg0_lt (x : Nat) (h : x < 4294967296) : sg0 x < 4294967296 := xor_lt (xor_lt (rotr_lt x 7 h) (rotr_lt x 18 h)) (by omega)
theorem sg1_lt (x : Nat) (h : x < 4294967296) : sg1 x < 4294967296 := xor_lt (xor_lt (rotr_lt x 17 h) (rotr_lt x 19 h)) (by omega)
theorem add_wrap (a b : Nat) : IntKind.u32.wrap ((a : Int) + (b : Int)) = (add32 a b : Int) := by
  rw [IntKind.wrap_u32', add32, Int.natCast_emod, Int.natCast_add]; rfl
theorem wordN_lt (b : List UInt8) (i : Nat) : wordN b i < 4294967296 := by
  have l0 := byteN_lt b (4 * i)
  have l1 := byteN_lt b (4 * i + 1)
  have l2 := byteN_lt b (4 * i + 2)
  have l3 := byteN_lt b (4 * i + 3)
  unfold wordN
  exact or_lt (or_lt (or_lt (by omega) (by omega)) (by omega)) (by omega)
theorem sched_lt (b : List UInt8) : ∀ k i, (sched b k).getD i 0 < 4294967296
  | 0, i => by simp [sched]
  | k + 1, i => by
    rw [sched, List.getD_eq_getElem?_getD]
    rcases Nat.lt_trichotomy i k with h | h | h
    · rw [List.getElem?_append_left (by rw [sched_len]; exact h), ← List.getD_eq_getElem?_getD]; exact sched_lt b k i
    · rw [List.getElem?_append_right (by rw [sched_len]; omega), sched_len, h, Nat.sub_self]
      simp only [List.getElem?_cons_zero, Option.getD_some]
      split
      · exact wordN_lt b k
      · exact add32_lt _ _
    · rw [List.getElem?_eq_none (by rw [List.length_append, sched_len]; simp; omega)]; simp
theorem sched_old (b : List UInt8) {k j : Nat} (h : j < k) : (sched b (k + 1)).getD j 0 = (sched b k).getD j 0 := by
  rw [sched, List.getD_eq_getElem?_getD, List.getElem?_append_left (by rw [sched_len]; exact h), ← List.getD_eq_getElem?_getD]
theorem sched_new (b : List UInt8) (k : Nat) : (sched b (k + 1)).getD k 0 = if k < 16 then wordN b k else nextW (sched b k) k := by
  rw [sched, List.getD_eq_getElem?_getD, List.getElem?_append_right (by rw [sched_len]; omega), sched_len, Nat.sub_self]; simp
/-- One more word of the row. -/
theorem sched_row (b : List UInt8) {C : Array Value} {i : Nat} {v : Int} (hC : C.size = 64) (hi : i < 64) (hw : ∀ j, j < i → C[j]? = some (.int .u32 ((sched b i).getD j 0 : Int))) (hv : v = ((sched b (i + 1)).getD i 0 : Int)) :
    ∀ j, j < i + 1 → (C.setIfInBounds i (.int .u32 v))[j]? = some (.int .u32 ((sched b (i + 1)).getD j 0 : Int)) := by
  intro j hj
  rcases Nat.lt_or_ge j i with h | h
  · rw [Array.getElem?_setIfInBounds_ne (by omega), hw j h, sched_old b h]
  · obtain rfl : j = i := by omega
    rw [Array.getElem?_setIfInBounds_self_of_lt (by omega), hv]

theorem wA_one (l : List Nat) : (wA l).all (·.oneCell') = true := by
  rw [Array.all_eq_true_iff_forall_mem]
  intro v hv
  simp only [wA, List.mem_toArray, List.mem_map] at hv
  obtain ⟨x, _, rfl⟩ := hv
  rfl
theorem ret_agg {a b : Array Value} (h : a = b) : Ending.returned (.agg a) = .returned (.agg b) := by rw [h]
theorem row_all (b : List UInt8) {C : Array Value} {k : Nat} (hC : C.size = k) (hw : ∀ j, j < k → C[j]? = some (.int .u32 ((sched b k).getD j 0 : Int))) : C = wA (sched b k) := by
  apply Array.ext_getElem?
  intro j
  by_cases h : j < k
  · rw [hw j h, wA]
    simp [List.getD_eq_getElem?_getD, List.getElem?_eq_getElem (show j < (sched b k).length by rw [sched_len]; exact h)]
  · rw [Array.getElem?_eq_none (by omega), Array.getElem?_eq_none (by simp [wA, sched_len]; omega)]
set_option maxRecDepth 100000 in
set_option maxHeartbeats 1000000 in
theorem sched_any (b : List UInt8) (hb : b.length = 64) (w : World) :
    Calls Tryd.prog 62 #[.agg (blkA b)] w fun e w' => e = .returned (.agg (wA (sched b 64))) ∧ Below w.heap.size w w' := by
  have HB := Lib.hid hb; clear hb
  go_enter Tryd.func62, Tryd.ntmps62
  go_wp2
  go_loopw [7] (fun p wr => ∃ (i : Nat) (Z C : Array Value), p = .int .i64 i ∧ i ≤ 64 ∧ Below w.heap.size w wr ∧ Row wr w.heap.size 64 (blkA b) ∧ Row wr (w.heap.size + 1) 72 Z ∧ Z.size = 64 ∧
      Row wr (w.heap.size + 1 + 1) 72 C ∧ C.size = 64 ∧ ∀ j, j < i → C[j]? = some (.int .u32 ((sched b i).getD j 0 : Int)))
    (fun p _ => 64 - (intOf p).toNat)
  case atStart =>
    refine ⟨0, _, _, rfl, by omega, ?_, ((Row.made w _ _).later _).later _, (Row.made_at _ _ _ (by simp)).later _, ?_, Row.made_at _ _ _ (by simp), ?_, fun j hj => absurd hj (by omega)⟩
    · exact (((Below.refl _ _).alloc (Nat.le_refl _) _).alloc (by simp) _).alloc (by simp; omega) _
    · rfl
    · rfl
  case round =>
    obtain ⟨i, Z, C, rfl, hi, hbr, h0, h1, hZ, h2, hC, hw⟩ := hrel
    by_cases hlt : i < 64
    · by_cases h16 : i < 16
      · have c0 := h0.at (blkA_at b (4 * i) (by rw [HB.out]; omega))
        have c1 := h0.at (blkA_at b (4 * i + 1) (by rw [HB.out]; omega))
        have c2 := h0.at (blkA_at b (4 * i + 2) (by rw [HB.out]; omega))
        have c3 := h0.at (blkA_at b (4 * i + 3) (by rw [HB.out]; omega))
        have l0 := byteN_lt b (4 * i)
        have l1 := byteN_lt b (4 * i + 1)
        have l2 := byteN_lt b (4 * i + 2)
        have l3 := byteN_lt b (4 * i + 3)
        obtain ⟨v9, hv9⟩ : ∃ v, C[i]? = some v := ⟨_, Array.getElem?_eq_getElem (show i < C.size by omega)⟩
        have c9 := h2.at hv9
        clear hv9
        have f9 := h2.free i
        have HW := Lib.hid hw; have H0 := Lib.hid h0; have H1 := Lib.hid h1; have H2 := Lib.hid h2; have HZ := Lib.hid hZ; have HC := Lib.hid hC
        clear hw h0 h1 h2 hZ hC
        obtain ⟨p0, hp0⟩ : ∃ p : Nat, p = 4 * i := ⟨_, rfl⟩
        obtain ⟨p1, hp1⟩ : ∃ p : Nat, p = p0 + 1 := ⟨_, rfl⟩
        obtain ⟨p2, hp2⟩ : ∃ p : Nat, p = p0 + 2 := ⟨_, rfl⟩
        obtain ⟨p3, hp3⟩ : ∃ p : Nat, p = p0 + 3 := ⟨_, rfl⟩
        have e0 : IntKind.i64.wrap (4 * (i : Int)) = (p0 : Int) := by rw [IntWalk.i64_in _ (by omega)]; omega
        have e1 : IntKind.i64.wrap ((p0 : Int) + 1) = (p1 : Int) := by rw [IntWalk.i64_in _ (by omega)]; omega
        have e2 : IntKind.i64.wrap ((p0 : Int) + 2) = (p2 : Int) := by rw [IntWalk.i64_in _ (by omega)]; omega
        have e3 : IntKind.i64.wrap ((p0 : Int) + 3) = (p3 : Int) := by rw [IntWalk.i64_in _ (by omega)]; omega
        rw [← hp0] at c0 c1 c2 c3 l0 l1 l2 l3
        rw [← hp1] at c1 l1
        rw [← hp2] at c2 l2
        rw [← hp3] at c3 l3
        have k0 : (p0 : Int) < 64 := by omega
        have n0 : (0 : Int) ≤ (p0 : Int) := by omega
        have k1 : (p1 : Int) < 64 := by omega
        have n1 : (0 : Int) ≤ (p1 : Int) := by omega
        have k2 : (p2 : Int) < 64 := by omega
        have n2 : (0 : Int) ≤ (p2 : Int) := by omega
        have k3 : (p3 : Int) < 64 := by omega
        have n3 : (0 : Int) ≤ (p3 : Int) := by omega
        have P0 := Lib.hid hp0; have P1 := Lib.hid hp1; have P2 := Lib.hid hp2; have P3 := Lib.hid hp3
        clear hp0 hp1 hp2 hp3
        have ki : (i : Int) < 64 := by omega
        have ni : (0 : Int) ≤ (i : Int) := by omega
        go_wp2
        go_still_tail 31, (by kernel_rfl)
        change wpList _ _ _ _ _ wr.drew
        clear e0 e1 e2 e3
        go_wp2
        go_roundw
        case rel =>
          refine ⟨i + 1, Z, _, by go_num, by omega, (hbr.setCell (p := ⟨w.heap.size + 1 + 1, i, none⟩) (by show _ ≤ w.heap.size + 1 + 1; omega) _).drew, (H0.out.aside (by show w.heap.size + 1 + 1 ≠ _; omega) _).drawn, (H1.out.aside (by show w.heap.size + 1 + 1 ≠ _; omega) _).drawn, HZ.out, (H2.out.stored _ _).drawn, by simpa using HC.out, sched_row b HC.out hlt HW.out ?_⟩
          rw [word_bits b i p0 p1 p2 p3 P0.out P1.out P2.out P3.out, sched_new, if_pos h16]
        case measure => simp [intOf]; omega
      · obtain ⟨q15, hq15⟩ : ∃ q : Nat, q = i - 15 := ⟨_, rfl⟩
        obtain ⟨q16, hq16⟩ : ∃ q : Nat, q = i - 16 := ⟨_, rfl⟩
        obtain ⟨q2, hq2⟩ : ∃ q : Nat, q = i - 2 := ⟨_, rfl⟩
        obtain ⟨q7, hq7⟩ : ∃ q : Nat, q = i - 7 := ⟨_, rfl⟩
        obtain ⟨x15, hx15⟩ : ∃ x : Nat, x = (sched b i).getD q15 0 := ⟨_, rfl⟩
        obtain ⟨x16, hx16⟩ : ∃ x : Nat, x = (sched b i).getD q16 0 := ⟨_, rfl⟩
        obtain ⟨x2, hx2⟩ : ∃ x : Nat, x = (sched b i).getD q2 0 := ⟨_, rfl⟩
        obtain ⟨x7, hx7⟩ : ∃ x : Nat, x = (sched b i).getD q7 0 := ⟨_, rfl⟩
        have c15 := h2.at (hw q15 (by omega))
        have c16 := h2.at (hw q16 (by omega))
        have c2 := h2.at (hw q2 (by omega))
        have c7 := h2.at (hw q7 (by omega))
        rw [← hx15] at c15
        rw [← hx16] at c16
        rw [← hx2] at c2
        rw [← hx7] at c7
        have l15 : x15 < 4294967296 := by rw [hx15]; exact sched_lt b i q15
        have l16 : x16 < 4294967296 := by rw [hx16]; exact sched_lt b i q16
        have l2 : x2 < 4294967296 := by rw [hx2]; exact sched_lt b i q2
        have l7 : x7 < 4294967296 := by rw [hx7]; exact sched_lt b i q7
        obtain ⟨v9, hv9⟩ : ∃ v, C[i]? = some v := ⟨_, Array.getElem?_eq_getElem (show i < C.size by omega)⟩
        have c9 := h2.at hv9
        have f9 := h2.free i
        have e15 : IntKind.i64.wrap ((i : Int) - 15) = (q15 : Int) := by rw [IntWalk.i64_in _ (by omega)]; omega
        have e16 : IntKind.i64.wrap ((i : Int) - 16) = (q16 : Int) := by rw [IntWalk.i64_in _ (by omega)]; omega
        have e2 : IntKind.i64.wrap ((i : Int) - 2) = (q2 : Int) := by rw [IntWalk.i64_in _ (by omega)]; omega
        have e7 : IntKind.i64.wrap ((i : Int) - 7) = (q7 : Int) := by rw [IntWalk.i64_in _ (by omega)]; omega
        have k15 : (q15 : Int) < 64 := by omega
        have n15 : (0 : Int) ≤ (q15 : Int) := by omega
        have k16 : (q16 : Int) < 64 := by omega
        have n16 : (0 : Int) ≤ (q16 : Int) := by omega
        have k2 : (q2 : Int) < 64 := by omega
        have n2 : (0 : Int) ≤ (q2 : Int) := by omega
        have k7 : (q7 : Int) < 64 := by omega
        have n7 : (0 : Int) ≤ (q7 : Int) := by omega
        have ki : (i : Int) < 64 := by omega
        have ni : (0 : Int) ≤ (i : Int) := by omega
        have HW := Lib.hid hw; have H0 := Lib.hid h0; have H1 := Lib.hid h1; have H2 := Lib.hid h2; have HZ := Lib.hid hZ; have HC := Lib.hid hC
        have Q15 := Lib.hid hq15; have Q16 := Lib.hid hq16; have Q2 := Lib.hid hq2; have Q7 := Lib.hid hq7
        have X15 := Lib.hid hx15; have X16 := Lib.hid hx16; have X2 := Lib.hid hx2; have X7 := Lib.hid hx7
        clear hw h0 h1 h2 hZ hC hv9 hq15 hq16 hq2 hq7 hx15 hx16 hx2 hx7
        go_wp2
        go_quiet ((first | (go_at_call 63; exact Calls.quiet_of_same (right_any x15 _ l15 (by decide) (by decide) _))))
        go_wp2
        go_quiet ((first | (go_at_call 63; exact quiet_more (right_any x2 _ l2 (by decide) (by decide)))))
        go_wp2
        rw [sg0_bits x15 l15, sg1_bits x2 l2]
        obtain ⟨y0, hy0⟩ : ∃ y, y = sg0 x15 := ⟨_, rfl⟩
        obtain ⟨y1, hy1⟩ : ∃ y, y = sg1 x2 := ⟨_, rfl⟩
        obtain ⟨t0, ht0⟩ : ∃ t, t = add32 x16 y0 := ⟨_, rfl⟩
        obtain ⟨t1, ht1⟩ : ∃ t, t = add32 t0 x7 := ⟨_, rfl⟩
        obtain ⟨t2, ht2⟩ : ∃ t, t = add32 t1 y1 := ⟨_, rfl⟩
        have a0 := add_wrap x16 y0
        have a1 := add_wrap t0 x7
        have a2 := add_wrap t1 y1
        rw [← ht0] at a0
        rw [← ht1] at a1
        rw [← ht2] at a2
        rw [← hy0, ← hy1]
        have hfin : (t2 : Int) = ((sched b (i + 1)).getD i 0 : Int) := by
          rw [sched_new, if_neg h16, nextW, ht2, ht1, ht0, hy0, hy1, X15.out, X16.out, X2.out, X7.out, Q15.out, Q16.out, Q2.out, Q7.out]
        have HF := Lib.hid hfin; clear hfin hy0 hy1 ht0 ht1 ht2
        rename_i na
        rw [World.drewN_drewN]
        generalize hq : wr.drewN (na + nq) = w2
        have d16 : w2.cell? ⟨w.heap.size + 1 + 1, q16, none⟩ = some (.int .u32 (x16 : Int)) := by rw [← hq]; exact c16
        have d7 : w2.cell? ⟨w.heap.size + 1 + 1, q7, none⟩ = some (.int .u32 (x7 : Int)) := by rw [← hq]; exact c7
        have d9 : w2.cell? ⟨w.heap.size + 1 + 1, i, none⟩ = some v9 := by rw [← hq]; exact c9
        have g9 : w2.frozen? ⟨w.heap.size + 1 + 1, i, none⟩ = false := by rw [← hq]; exact f9
        have hbr2 : Below w.heap.size w w2 := by rw [← hq]; exact below_drawnN hbr _
        have R0 : Hid (Row w2 w.heap.size 64 (blkA b)) := by rw [← hq]; exact H0.out
        have R1 : Hid (Row w2 (w.heap.size + 1) 72 Z) := by rw [← hq]; exact H1.out
        have R2 : Hid (Row w2 (w.heap.size + 1 + 1) 72 C) := by rw [← hq]; exact H2.out
        clear hq H0 H1 H2 c15 c16 c2 c7 c9 f9
        go_still_tail 15, (by kernel_rfl)
        change wpList _ _ _ _ _ w2.drew
        clear e15 e16 e2 e7 a0 a1 a2
        go_wp2
        go_roundw
        case rel =>
          have hi1 : i + 1 ≤ 64 := by omega
          have hg : Value.int .i64 ((i : Int) + 1) = .int .i64 ((i + 1 : Nat) : Int) := by go_num
          trace "A"
          refine ⟨i + 1, Z, C.setIfInBounds i (.int .u32 (t2 : Int)), hg, hi1, ?_, ?_, ?_, HZ.out, ?_, ?_, ?_⟩
          · trace "B"; exact (hbr2.setCell (p := ⟨w.heap.size + 1 + 1, i, none⟩) (by show _ ≤ w.heap.size + 1 + 1; omega) _).drew
          · trace "C"; exact (R0.out.aside (by show w.heap.size + 1 + 1 ≠ _; omega) _).drawn
          · trace "D"; exact (R1.out.aside (by show w.heap.size + 1 + 1 ≠ _; omega) _).drawn
          · trace "E"; exact (R2.out.stored _ _).drawn
          · trace "F"; simpa using HC.out
          · trace "G"; exact sched_row b HC.out hlt HW.out HF.out
        case measure => simp [intOf]; omega
    · obtain rfl : i = 64 := by omega
      have hall : C = wA (sched b 64) := row_all b hC hw
      have HA := Lib.hid hall; have H1 := Lib.hid h1; have H2 := Lib.hid h2; have HZ := Lib.hid hZ; have HC := Lib.hid hC
      clear hall hw h0 h1 h2 hZ hC
      have z72 : (Tryd.prog.info? 72).map (·.size) = some C.size := by rw [HC.out]; kernel_rfl
      have Z72 := Lib.hid z72; clear z72
      go_wp2_with (first
        | ((with_reducible refine wpList_load_row (o := ⟨some 93, _, _, _, _, _⟩) rfl 72 (.tmp 3) rfl (w.heap.size + 1 + 1) ?_ 72 C (0, 0) _ ?_ Tryd.underlying72 ?_ ?_ ?_); exact rfl; exact H2.out; exact rfl; exact Z72.out)
        | ((with_reducible refine wpList_store_row (o := ⟨none, .store 72 _ _, _, _, _, _⟩) rfl 72 (.tmp 2) (.tmp 93) rfl (w.heap.size + 1) C ?_ ?_ 72 Z ?_ ?_ ?_ ?_ ?_); exact rfl; exact rfl; exact H1.out; exact Z72.out; (rw [HZ.out, HC.out]); (rw [HA.out]; exact wA_one _)))
      refine bodyPost_ret (v := .agg C) ?_ rfl ?_
      · exact results_cell_row rfl _ _ (w.heap.size + 1) 72 C (0, 0) _ rfl (H1.out.whole C) Tryd.underlying72 rfl Z72.out
      · exact ⟨ret_agg HA.out, below_row hbr (by omega) _⟩
end Go.Proofs.YtjcamhekhfokhaaDoor
