/- dialtoneref02.extended: a string with the bytes that are added to it. -/
import Derived.Test.YtjcamhekhfokhaaDoorApp
namespace Go.Proofs.YtjcamhekhfokhaaDoor
open Go.RowKit

/-- A string's bytes with those that are added. -/
def extB (l : List UInt8) : List UInt8 := l ++ pad l.length
theorem bytesV_add (l : List UInt8) (x : UInt8) : bytesV (l ++ [x]) = bytesV l ++ [.int .u8 (x.toNat : Int)] := by simp [bytesV]
theorem zeros_add (l : List UInt8) (j : Nat) : l ++ 128 :: List.replicate (j + 1) 0 = (l ++ 128 :: List.replicate j 0) ++ [0] := by
  rw [List.replicate_succ']; simp
theorem len_at (n k : Nat) (h : k < 8) (hl : k < (lenBytes n).length) : (lenBytes n)[k] = UInt8.ofNat (8 * n / 2 ^ (8 * (7 - k))) := by
  have h1 : (lenBytes n)[k]? = some (UInt8.ofNat (8 * n / 2 ^ (8 * (7 - k)))) := by rw [lenBytes, List.getElem?_map, List.getElem?_range h]; rfl
  rw [List.getElem?_eq_getElem hl] at h1
  exact Option.some.inj h1
theorem len_add (n k : Nat) (h : k < 8) : (lenBytes n).take (k + 1) = (lenBytes n).take k ++ [UInt8.ofNat (8 * n / 2 ^ (8 * (7 - k)))] := by
  have hl : k < (lenBytes n).length := by rw [lenBytes_len]; exact h
  rw [List.take_succ_eq_append_getElem hl, len_at n k h hl]
theorem byte_at (s : ByteArray) (j : Nat) (h : j < s.size) (hl : j < s.data.toList.length) : s.data.toList[j] = s[j] := by
  rw [Array.getElem_toList]; rfl
theorem own_some {w : World} {B n : Nat} {e : TypeId} {v : Value} {xs : List Value} (h : w.ownsRow B e 1 v n xs) (hn : 0 < n) : ∃ g cap, v = .slice (some ⟨g, 0, none⟩) n cap ∧ g < w.heap.size ∧ B ≤ g := by
  obtain ⟨g, cap, h1, h2, h3⟩ := h.form hn
  exact ⟨g, cap, h1, h3, h2⟩

set_option maxRecDepth 100000 in
set_option maxHeartbeats 2000000 in
theorem ext_any (s : ByteArray) (hs : s.size ≤ 100000000) (w : World) :
    Calls Tryd.prog 41 #[.string s] w fun e w' => ∃ v, e = .returned v ∧ w'.ownsRow w.heap.size 5 1 v (extB s.data.toList).length (bytesV (extB s.data.toList)) ∧ Below w.heap.size w w' := by
  obtain ⟨i0, hi, hz0, hz1, hz2⟩ := info_parts byte_info
  obtain ⟨l, hl⟩ : ∃ l, l = s.data.toList := ⟨_, rfl⟩
  have hln : l.length = s.size := by rw [hl, Array.length_toList]; rfl
  rw [← hl]
  have HL := Lib.hid hl; have HN := Lib.hid hln
  clear hl hln
  go_enter Tryd.func41, Tryd.ntmps41
  go_wp2
  go_loopw [3, 4] (fun v p wr => ∃ j : Nat, p = .int .i64 j ∧ j ≤ s.size ∧ wr.ownsRow w.heap.size 5 1 v j (bytesV (l.take j)) ∧ Below w.heap.size w wr) (fun _ p _ => s.size - (intOf p).toNat)
  case atStart => exact ⟨0, rfl, by omega, World.ownsRow_nil _ _ _ _, Below.refl _ _⟩
  case round =>
    obtain ⟨j, rfl, hj, hrow, hbr⟩ := hrel
    by_cases hlt : j < s.size
    · have hjl : j < l.length := by rw [HN.out]; exact hlt
      have hnx : bytesV (l.take (j + 1)) = bytesV (l.take j) ++ [.int .u8 (s[j].toNat : Int)] := by
        rw [List.take_succ_eq_append_getElem hjl, bytesV_add]
        congr 4
        have := HL.out
        subst this
        exact congrArg UInt8.toNat (byte_at s j hlt hjl)
      have HX := Lib.hid hnx; have HR := Lib.hid hrow
      have j0 : (0 : Int) ≤ (j : Int) := by omega
      have j1 : (j : Int) < (s.size : Int) := by omega
      have ka := keep_alloc hbr (.cells #[.int .u8 (s[j].toNat : Int)] 5)
      clear hnx hrow hjl
      go_wp2_with (at_builtin; refine wpList_append_own _ rfl _ _ 43 rfl w.heap.size 5 i0 (.int .u8 0) 1 1 Tryd.underlying43 hi hz0 hz1 hz2 rfl (by decide) _ _ _ rfl (HR.out.alloc _) ⟨wr.heap.size, 0, none⟩ 1 1 [.int .u8 (s[j].toNat : Int)] rfl rfl (cell_one_new _ _ _) (by simp [Value.oneCell']) (by unfold maxLen; omega) (by omega) ka.size ?_; intro v' w1 hown' hgrow _)
      go_roundw
      case rel => exact ⟨j + 1, by go_num, by omega, by rw [HX.out]; exact hown', keep_grown ka hgrow (HR.out.alloc _)⟩
      case measure => simp [intOf]; omega
    · obtain rfl : j = s.size := by omega
      rw [List.take_of_length_le (by rw [HN.out]; exact Nat.le_refl _)] at hrow
      have HR := Lib.hid hrow
      have ka := keep_alloc hbr (.cells #[.int .u8 128] 5)
      clear hrow
      go_wp2_with (at_builtin; refine wpList_append_own _ rfl _ _ 43 rfl w.heap.size 5 i0 (.int .u8 0) 1 1 Tryd.underlying43 hi hz0 hz1 hz2 rfl (by decide) _ _ _ rfl (HR.out.alloc _) ⟨wr.heap.size, 0, none⟩ 1 1 [.int .u8 128] rfl rfl (cell_one_new _ _ _) (by simp [Value.oneCell']) (by unfold maxLen; omega) (by omega) ka.size ?_; intro v1 w1 hown1 hgrow _)
      have b1 := keep_grown ka hgrow (HR.out.alloc _)
      have h1 : w1.ownsRow w.heap.size 5 1 v1 (s.size + 1 + 0) (bytesV (l ++ 128 :: List.replicate 0 0)) := by
        rw [show l ++ 128 :: List.replicate 0 0 = l ++ [128] from rfl, bytesV_add]; exact hown1
      have B1 := Lib.hid b1; have H1 := Lib.hid h1
      obtain ⟨z, hz⟩ : ∃ z, z = padN s.size := ⟨_, rfl⟩
      have kz : z < 64 := by rw [hz, padN]; omega
      have ez : (s.size + 1 + z) % 64 = 56 := by rw [hz, padN]; omega
      have nz : ∀ j, j < z → (s.size + 1 + j) % 64 ≠ 56 := by rw [hz, padN]; omega
      have HZ := Lib.hid hz
      clear hz b1 h1 hown1 hgrow ka HR hbr
      go_loopw [3] (fun v wr => ∃ j : Nat, j ≤ z ∧ wr.ownsRow w.heap.size 5 1 v (s.size + 1 + j) (bytesV (l ++ 128 :: List.replicate j 0)) ∧ Below w.heap.size w wr) (fun v _ => match v with | .slice _ n _ => s.size + 1 + z - n | _ => 0)
      case atStart => exact ⟨0, by omega, H1.out, B1.out⟩
      case round =>
        obtain ⟨j, hj, hrow, hbr⟩ := hrel
        obtain ⟨g, cap, rfl, hg, _⟩ := own_some hrow (by omega)
        obtain ⟨m, hm⟩ : ∃ m, m = s.size + 1 + j := ⟨_, rfl⟩
        rw [← hm] at hrow ⊢
        by_cases hlt : j < z
        · have hne := nz j hlt
          rw [← hm] at hne
          have i1 : ((m : Int) % 64 == 56) = false := by rw [beq_eq_false_iff_ne]; omega
          have HR := Lib.hid hrow; have HM := Lib.hid hm
          have ka := keep_alloc hbr (.cells #[.int .u8 0] 5)
          have mm : m ≤ 200000000 := by omega
          clear hrow hne hm
          go_wp2_with (at_builtin; refine wpList_append_own _ rfl _ _ 43 rfl w.heap.size 5 i0 (.int .u8 0) 1 1 Tryd.underlying43 hi hz0 hz1 hz2 rfl (by decide) _ _ _ rfl (HR.out.alloc _) ⟨wr.heap.size, 0, none⟩ 1 1 [.int .u8 0] rfl rfl (cell_one_new _ _ _) (by simp [Value.oneCell']) (by unfold maxLen; omega) (by omega) ka.size ?_; intro v1 w1 hown1 hgrow _; obtain ⟨g', cap', rfl, _, _⟩ := own_some hown1 (by omega))
          go_roundw
          case rel =>
            obtain rfl := HM.out
            exact ⟨j + 1, by omega, by rw [zeros_add, bytesV_add]; exact hown1, keep_grown ka hgrow (HR.out.alloc _)⟩
          case measure => have := HM.out; simp; omega
        · obtain rfl : j = z := by omega
          have i1 : ((m : Int) % 64 == 56) = true := by rw [beq_iff_eq]; omega
          have HR := Lib.hid hrow; have HM := Lib.hid hm; have HB := Lib.hid hbr
          have mm : m ≤ 200000000 := by omega
          have i2 : ((m : Int) % 64 != 56) = false := by rw [bne, i1]; rfl
          clear hrow hm ez nz hbr
          go_wp2
          clear i1 i2
          go_loopw [3, 5] (fun v p wr => ∃ (k : Nat) (i : Int), p = .int .i64 i ∧ i = 7 - k ∧ k ≤ 8 ∧ wr.ownsRow w.heap.size 5 1 v (m + k) (bytesV (l ++ 128 :: (List.replicate j 0 ++ (lenBytes s.size).take k))) ∧ Below w.heap.size w wr) (fun _ p _ => (intOf p + 1).toNat)
          case atStart => exact ⟨0, 7, rfl, by omega, by omega, by simpa using HR.out, HB.out⟩
          case round =>
            obtain ⟨k, i, rfl, hik, hk, hrow, hbr⟩ := hrel
            by_cases hlt : k < 8
            · obtain ⟨r, rfl⟩ := Int.eq_ofNat_of_zero_le (show 0 ≤ i by omega)
              obtain ⟨N8, hN8⟩ : ∃ N : Nat, N = 8 * s.size := ⟨_, rfl⟩
              obtain ⟨c, hc⟩ : ∃ c : Nat, c = 8 * r := ⟨_, rfl⟩
              have e1 : IntKind.i64.wrap (8 * (s.size : Int)) = (N8 : Int) := by rw [IntWalk.i64_in _ (by omega)]; omega
              have e2 : IntKind.i64.wrap (8 * (r : Int)) = (c : Int) := by rw [IntWalk.i64_in _ (by omega)]; omega
              have e9 : IntKind.i64.wrap ((r : Int) - 1) = (r : Int) - 1 := by rw [IntWalk.i64_in _ (by omega)]
              have e3 : (0 : Int) ≤ (c : Int) := by omega
              have e4 : (c : Int) < 64 := by omega
              have HR2 := Lib.hid hrow; have HN8 := Lib.hid hN8; have HC := Lib.hid hc; have HI := Lib.hid hik
              clear hrow hN8 hc hik
              have r0 : (0 : Int) ≤ (r : Int) := by omega
              have HX : Hid (((UInt8.ofNat (8 * s.size / 2 ^ (8 * (7 - k)))).toNat : Int) = (N8 : Int) / 2 ^ c % 256) := by
                have hr7 : 7 - k = r := by have := HI.out; omega
                rw [hr7, ← HC.out, ← HN8.out, UInt8.toNat_ofNat', Int.natCast_emod, Int.natCast_ediv, Int.natCast_pow]; exact Lib.hid rfl
              have ka := keep_alloc hbr (.cells #[.int .u8 ((N8 : Int) / 2 ^ c % 256)] 5)
              go_wp2_with (at_builtin; refine wpList_append_own _ rfl _ _ 43 rfl w.heap.size 5 i0 (.int .u8 0) 1 1 Tryd.underlying43 hi hz0 hz1 hz2 rfl (by decide) _ _ _ rfl (HR2.out.alloc _) ⟨wr.heap.size, 0, none⟩ 1 1 [.int .u8 ((N8 : Int) / 2 ^ c % 256)] rfl rfl (cell_one_new _ _ _) (by simp [Value.oneCell']) (by unfold maxLen; omega) (by omega) ka.size ?_; intro v1 w1 hown1 hgrow _)
              go_roundw
              case rel =>
                have hi := HI.out
                refine ⟨k + 1, (r : Int) - 1, by first | rfl | go_num, by omega, by omega, ?_, keep_grown ka hgrow (HR2.out.alloc _)⟩
                rw [len_add _ _ hlt, ← List.append_assoc, ← List.cons_append, ← List.append_assoc, bytesV_add, HX.out]
                exact hown1
              case measure => simp [intOf]
            · obtain rfl : k = 8 := by omega
              obtain rfl : i = -1 := by omega
              rw [List.take_of_length_le (by rw [lenBytes_len]; omega)] at hrow
              have hfin : extB l = l ++ 128 :: (List.replicate j 0 ++ lenBytes s.size) := by rw [extB, pad, HN.out, ← HZ.out]
              have hlen : (extB l).length = m + 8 := by rw [extB, List.length_append, pad_len, HN.out, ← HZ.out, HM.out]; omega
              rw [← hfin, ← hlen] at hrow
              clear hfin hlen
              have HR3 := Lib.hid hrow
              clear hrow
              go_wp2
              go_ret
              exact ⟨_, rfl, HR3.out, hbr⟩
end Go.Proofs.YtjcamhekhfokhaaDoor
