/- digest.padding returns what a string of that many bytes is extended by. -/
import Derived.Test.YtjcamhekhfokhaaDoorComp
import Derived.Laws.IdiomStrings
namespace Go.Proofs.YtjcamhekhfokhaaDoor
open Go.RowKit

/-- Byte j of the array when k bytes of the length are written. -/
def padC (n k j : Nat) : Nat := if j = 0 then 128 else if j < 1 + padN n then 0 else if j < 1 + padN n + k then 8 * n / 2 ^ (8 * (7 - (j - 1 - padN n))) % 256 else 0
theorem padN_lt (n : Nat) : padN n < 64 := Nat.mod_lt _ (by decide)
theorem padC_zero (n j : Nat) : padC n 0 j = if j = 0 then 128 else 0 := by unfold padC; split; rfl; split; rfl; split; omega; rfl
theorem pad_at (n j : Nat) (h : j < padN n + 9) : (pad n)[j]? = some (UInt8.ofNat (padC n 8 j)) := by
  unfold pad padC
  rcases j with _ | j
  · rfl
  · rw [List.getElem?_cons_succ, if_neg (by omega)]
    rcases Nat.lt_or_ge j (padN n) with h1 | h1
    · rw [if_pos (by omega), List.getElem?_append_left (by simpa using h1), List.getElem?_replicate, if_pos h1]; rfl
    · rw [if_neg (by omega), if_pos (by omega), List.getElem?_append_right (by simpa using h1), List.length_replicate, lenBytes, List.getElem?_map, List.getElem?_range (by omega)]
      simp only [Option.map_some]
      rw [show j + 1 - 1 - padN n = j - padN n by omega]
      congr 1
      apply UInt8.toNat_inj.1
      simp
theorem padC_lt (n k j : Nat) : padC n k j < 256 := by
  unfold padC; split; omega; split; omega; split; exact Nat.mod_lt _ (by decide); omega
theorem padC_old (n k j : Nat) (h : j ≠ 1 + padN n + k) : padC n (k + 1) j = padC n k j := by
  unfold padC; split; rfl; split; rfl; split <;> split <;> first | rfl | omega
theorem padC_new (n k : Nat) : padC n (k + 1) (1 + padN n + k) = 8 * n / 2 ^ (8 * (7 - k)) % 256 := by
  unfold padC
  rw [if_neg (by omega), if_neg (by omega), if_pos (by omega), show 1 + padN n + k - 1 - padN n = k by omega]

set_option maxRecDepth 100000 in
set_option maxHeartbeats 1000000 in
theorem padding_any (n : Nat) (hn : n ≤ 1099511627776) (w : World) :
    Calls Tryd.prog 55 #[.int .i64 n] w fun e w' => e = .returned (.string ⟨(pad n).toArray⟩) ∧ Below w.heap.size w w' := by
  obtain ⟨z, hz⟩ : ∃ z, z = padN n := ⟨_, rfl⟩
  have kz : z < 64 := by rw [hz]; exact padN_lt n
  have ez : (119 - (n : Int) % 64) % 64 = (z : Int) := by rw [hz, padN]; omega
  have HZ := Lib.hid hz; clear hz
  go_enter Tryd.func55, Tryd.ntmps55
  go_wp2
  rw [ez]
  clear ez
  go_loopw [11] (fun p wr => ∃ (k : Nat) (C : Array Value), p = .int .i64 k ∧ k ≤ 8 ∧ Row wr w.heap.size 70 C ∧ C.size = 72 ∧ (∀ j, j < 72 → C[j]? = some (.int .u8 (padC n k j : Int))) ∧ Below w.heap.size w wr)
    (fun p _ => 8 - (intOf p).toNat)
  case atStart =>
    refine ⟨0, _, rfl, by omega, Row.made _ _ _, rfl, ?_, (Below.refl _ _).alloc (Nat.le_refl _) _⟩
    intro j hj
    rw [padC_zero]
    rcases j with _ | j
    · rfl
    · show ((Value.int .u8 128 :: List.replicate 71 (Value.int .u8 0)).toArray)[j + 1]? = _
      rw [List.getElem?_toArray, List.getElem?_cons_succ, List.getElem?_replicate, if_pos (by omega), if_neg (by omega)]; rfl
  case round =>
    obtain ⟨k, C, rfl, hk, hr, hC, hc, hb⟩ := hrel
    by_cases hlt : k < 8
    · have cx := hr.at (hc (1 + z + k) (by omega))
      have fx := hr.free (1 + z + k)
      have HC := Lib.hid hc; have HR := Lib.hid hr; have HS := Lib.hid hC
      clear hc hr hC
      go_wp2
      go_roundw
      case rel =>
        refine ⟨k + 1, C.setIfInBounds (1 + z + k) _, by go_num, by omega, HR.out.stored _ _, by simpa using HS.out, ?_, hb.setCell (p := ⟨w.heap.size, 1 + z + k, none⟩) (Nat.le_refl _) _⟩
        intro j hj
        by_cases e : j = 1 + z + k
        · subst e
          rw [Array.getElem?_setIfInBounds_self_of_lt (by rw [HS.out]; exact hj), HZ.out, padC_new]
          have hv : (8 * (n : Int) / 2 ^ (8 * (7 - k)) % 256) = ((8 * n / 2 ^ (8 * (7 - k)) % 256 : Nat) : Int) := by
            rw [Int.natCast_emod, Int.natCast_ediv, Int.natCast_mul, Int.natCast_pow]; rfl
          rw [← hv]
        · rw [Array.getElem?_setIfInBounds_ne (fun h => e h.symm), HC.out j hj, padC_old _ _ _ (by rw [← HZ.out]; exact e)]
      case measure => simp [intOf]; omega
    · obtain rfl : k = 8 := by omega
      have hconv : (convert 43 9 (.slice (some ⟨w.heap.size, 0, none⟩) (z + 9) 72)).run Tryd.prog wr = .ok (.string ⟨(pad n).toArray⟩) wr := by
        have hl : (pad n).length = z + 9 := by rw [pad_len, HZ.out]
        have := run_convert_bytes_back (P := Tryd.prog) wr 43 9 5 ⟨w.heap.size, 0, none⟩ 72 (pad n) Tryd.underlying43 Tryd.underlying5 Tryd.underlying9 (by
          intro i hi
          have e0 : (⟨w.heap.size, 0, none⟩ : Addr).add i = ⟨w.heap.size, i, none⟩ := by unfold Addr.add; split <;> simp_all
          rw [e0, hr.at (hc i (by omega))]
          have hp := pad_at n i (by rw [← HZ.out]; omega)
          rw [List.getElem?_eq_getElem hi] at hp
          injection hp with hp
          rw [hp]
          simp [UInt8.toNat_ofNat', Nat.mod_eq_of_lt (padC_lt n 8 i)])
        rw [hl] at this
        exact this
      have HR := Lib.hid hr; have HC := Lib.hid hc; have HS := Lib.hid hC
      clear hr hc hC hlt
      have s1 : (0 : Int) ≤ 1 + (z : Int) + 8 := by omega
      have s2 : 1 + (z : Int) + 8 ≤ 72 := by omega
      have s3 : (1 + (z : Int) + 8).toNat = z + 9 := by omega
      go_wp2
      go_ret
      exact ⟨rfl, hb⟩
end Go.Proofs.YtjcamhekhfokhaaDoor
