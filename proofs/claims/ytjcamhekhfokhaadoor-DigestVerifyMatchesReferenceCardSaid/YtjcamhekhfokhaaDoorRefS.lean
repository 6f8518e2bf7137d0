/- dialtoneref02.Sum, Leaf, Node and Chain return the digests of the mathematics' text. -/
import Derived.Test.YtjcamhekhfokhaaDoorRefB
import Derived.Test.YtjcamhekhfokhaaDoorHeadM
namespace Go.Proofs.YtjcamhekhfokhaaDoor
open Go.RowKit

theorem init_row (w : World) : At8 (w.alloc (.cells #[.int .u32 1779033703, .int .u32 3144134277, .int .u32 1013904242, .int .u32 2773480762, .int .u32 1359893119, .int .u32 2600822924, .int .u32 528734635, .int .u32 1541459225] 48)) w.heap.size init8 := At8.made w init8
theorem bytesV_at (l : List UInt8) (i : Nat) (h : i < l.length) : (bytesV l)[i]? = some (.int .u8 (byteN l i : Int)) := by
  rw [bytesV, List.getElem?_map, List.getElem?_eq_getElem h, byteN, List.getD_eq_getElem?_getD, List.getElem?_eq_getElem h]; rfl
theorem blk_byte (T : List UInt8) (k i : Nat) (h : i < 64) : byteN (blk T k) i = byteN T (64 * k + i) := by
  unfold byteN blk
  rw [List.getD_eq_getElem?_getD, List.getD_eq_getElem?_getD, List.getElem?_take_of_lt h, List.getElem?_drop]
theorem be4_vals (x y0 y1 y2 y3 : Nat) (h0 : y0 = x / 16777216 % 256) (h1 : y1 = x / 65536 % 256) (h2 : y2 = x / 256 % 256) (h3 : y3 = x % 256) :
    bytesV (be4 x) = [.int .u8 (y0 : Int), .int .u8 (y1 : Int), .int .u8 (y2 : Int), .int .u8 (y3 : Int)] := by
  subst h0 h1 h2 h3
  simp only [bytesV, be4, List.map_cons, List.map_nil, UInt8.toNat_ofNat']

set_option maxRecDepth 100000 in
set_option maxHeartbeats 4000000 in
theorem refsum_any (s : ByteArray) (hs : s.size ≤ 100000000) (w : World) :
    Calls Tryd.prog 14 #[.string s] w fun e w' => e = .returned (.string (sumS s)) ∧ Below w.heap.size w w' := by
  obtain ⟨T, hT⟩ : ∃ T, T = extB s.data.toList := ⟨_, rfl⟩
  have hln : s.data.toList.length = s.size := by rw [Array.length_toList]; rfl
  obtain ⟨K, hK⟩ : ∃ K, K = (s.size + 8) / 64 + 1 := ⟨_, rfl⟩
  obtain ⟨n, hn⟩ : ∃ n, n = 64 * K := ⟨_, rfl⟩
  have hTn : T.length = n := by rw [hT, extB, flat_len, hln, hn, hK]
  have hfin : sumS s = ⟨(bytesOf (stateN T K)).toArray⟩ := by
    rw [sumS, hashS, sha_state, hT, extB, hln, hK]
  have hext := fun W => ext_any s hs W
  rw [← hT, hTn] at hext
  have hn0 : 0 < n := by omega
  have hnm : n ≤ 200000000 := by omega
  have HN := Lib.hid hn; have HTN := Lib.hid hTn; have HF := Lib.hid hfin
  clear hT hK hn hTn hfin hln
  have b0 := below_alloc w (.cells #[.int .u32 1779033703, .int .u32 3144134277, .int .u32 1013904242, .int .u32 2773480762, .int .u32 1359893119, .int .u32 2600822924, .int .u32 528734635, .int .u32 1541459225] 48)
  have i0 := init_row w
  go_enter Tryd.func14, Tryd.ntmps14
  go_wp2_with fail
  generalize hw0 : w.alloc _ = w0 at b0 i0 ⊢
  have g0 : w.heap.size < w0.heap.size := by rw [← hw0]; simp
  refine (hext _).mono ?_
  rintro e w1 ⟨v1, rfl, o1, b1⟩
  obtain ⟨gb, cb, rfl, hgb, hgb2⟩ := own_some o1 hn0
  have hbytes : ∀ i, i < n → w1.cell? ⟨gb, i, none⟩ = some (.int .u8 (byteN T i : Int)) := fun i hi => (o1.cellAt i (by omega)).trans (bytesV_at T i (by rw [HTN.out]; exact hi))
  have hcb : n ≤ cb := by
    rcases o1.2 with ⟨hh, _⟩ | ⟨_, _, _, hh, _, _, h8, _⟩
    · cases hh
    · simp only [Value.slice.injEq] at hh
      obtain ⟨_, _, rfl⟩ := hh
      exact h8
  have hcm : cb ≤ 9223372036854775807 := by
    rcases o1.2 with ⟨hh, _⟩ | ⟨_, _, _, hh, _, _, _, h8, _⟩
    · cases hh
    · simp only [Value.slice.injEq] at hh
      obtain ⟨_, _, rfl⟩ := hh
      unfold maxLen at h8; omega
  have A1 := Lib.hid (i0.below b1 g0)
  have q1 := Lib.hid (below_step b0 b1)
  have HBy := Lib.hid hbytes
  have g1 : w.heap.size < w1.heap.size := Nat.lt_of_lt_of_le g0 b1.size
  clear i0 b0 b1 o1 hbytes hext hw0 g0 hgb2
  go_wp2_with fail
  go_loopw [3, 5] (fun h p wr => ∃ k gh ch : Nat, p = .int .i64 ((64 * k : Nat) : Int) ∧ k ≤ K ∧ h = .slice (some ⟨gh, 0, none⟩) 8 ch ∧ 8 ≤ ch ∧ gh < wr.heap.size ∧ At8 wr gh (stateN T k) ∧ Below w1.heap.size w1 wr) (fun _ p _ => n - (intOf p).toNat)
  case atStart => exact ⟨0, w.heap.size, 8, rfl, by omega, rfl, by omega, g1, A1.out, Below.refl _ _⟩
  case round =>
    obtain ⟨k, gh, ch, rfl, hk, rfl, hch, hgh, hat, hbr⟩ := hrel
    obtain ⟨q, hq⟩ : ∃ q, q = 64 * k := ⟨_, rfl⟩
    rw [← hq]
    by_cases hlt : k < K
    · have hqn : q + 64 ≤ n := by have := HN.out; omega
      obtain ⟨q2, hq2⟩ : ∃ q2, q2 = q + 64 := ⟨_, rfl⟩
      have e1 : IntKind.i64.wrap ((q : Int) + 64) = (q2 : Int) := by rw [IntWalk.i64_in _ (by omega)]; omega
      have i1 : (q : Int) < (n : Int) := by omega
      have i2 : (0 : Int) ≤ (q : Int) := by omega
      have i3 : (q : Int) ≤ (q2 : Int) := by omega
      have i4 : (q2 : Int) ≤ (cb : Int) := by omega
      have hbl : AtB wr gb q (blk T k) := fun i hi => by
        have h64 : i < 64 := by rwa [blk_len (by rw [HTN.out]; omega)] at hi
        rw [blk_byte T k i h64, ← hq]
        exact (hbr.cell (p := ⟨gb, q + i, none⟩) hgb).trans (HBy.out (q + i) (by omega))
      have hgb' : gb < wr.heap.size := Nat.lt_of_lt_of_le hgb hbr.size
      have cB := block_any (stateN T k) (state_ok T k) (blk T k) (blk_len (by rw [HTN.out]; omega)) gh ch gb q (cb - q) wr hgh hgb' hat hbl hch (by omega)
      have HQ := Lib.hid hq; have HQ2 := Lib.hid hq2; have BR := Lib.hid hbr
      have e2 : q2 - q = 64 := by omega
      clear hq hq2 hbl hat hbr
      go_wp2_with fail
      refine cB.mono ?_
      rintro e w5 ⟨g5, c5, rfl, h5, hg5, a5, b5⟩
      go_wp2
      go_roundw
      case rel => exact ⟨k + 1, g5, c5, by rw [show 64 * (k + 1) = q + 64 by rw [HQ.out]; omega]; go_num, by omega, rfl, h5, hg5, a5, below_step BR.out b5⟩
      case measure => simp [intOf]; omega
    · have hkK : k = K := by omega
      have hqn : q = n := by rw [hq, hkK, HN.out]
      have i1 : ¬ (q : Int) < (n : Int) := by omega
      have HF2 : Hid (sumS s = ⟨(bytesOf (stateN T k)).toArray⟩) := by have := HF.out; rw [hkK]; exact Lib.hid this
      have ok := state_ok T k
      obtain ⟨st, hst⟩ : ∃ st, st = stateN T k := ⟨_, rfl⟩
      rw [← hst] at HF2 hat ok
      have HAT := Lib.hid hat
      have B4 := Lib.hid (below_step q1.out hbr)
      obtain ⟨w4, rfl⟩ : ∃ x, x = wr := ⟨_, rfl⟩
      obtain ⟨i0, hi, hz0, hz1, hz2⟩ := info_parts byte_info
      clear hst hat hbr hq hkK hqn
      go_wp2
      go_loopw [6, 7] (fun v p w5 => ∃ j : Nat, p = .int .i64 j ∧ j ≤ 8 ∧ w5.ownsRow w4.heap.size 5 1 v (4 * j) (bytesV (preB st j)) ∧ Below w4.heap.size w4 w5) (fun _ p _ => 8 - (intOf p).toNat)
      case atStart => exact ⟨0, rfl, by omega, World.ownsRow_nil _ _ _ _, Below.refl _ _⟩
      case round =>
        obtain ⟨j, rfl, hj, hrow, hb5⟩ := hrel
        by_cases hlt8 : j < 8
        · have ca := (hb5.cell (p := ⟨gh, j, none⟩) hgh).trans (HAT.out j _ (s8_at st j hlt8))
          have kx := nth_lt ok j
          obtain ⟨x, hx⟩ : ∃ x, x = st.nth j := ⟨_, rfl⟩
          rw [← hx] at ca kx
          obtain ⟨y0, hy0⟩ : ∃ y, y = x / 16777216 % 256 := ⟨_, rfl⟩
          obtain ⟨y1, hy1⟩ : ∃ y, y = x / 65536 % 256 := ⟨_, rfl⟩
          obtain ⟨y2, hy2⟩ : ∃ y, y = x / 256 % 256 := ⟨_, rfl⟩
          obtain ⟨y3, hy3⟩ : ∃ y, y = x % 256 := ⟨_, rfl⟩
          have hnx : bytesV (preB st (j + 1)) = bytesV (preB st j) ++ [.int .u8 (y0 : Int), .int .u8 (y1 : Int), .int .u8 (y2 : Int), .int .u8 (y3 : Int)] := by
            rw [← be4_vals x y0 y1 y2 y3 hy0 hy1 hy2 hy3, preB, bytesV, List.map_append, ← bytesV, ← bytesV, ← hx]
          have m0 : (x : Int) / 16777216 % 256 = (y0 : Int) := by omega
          have m1 : (x : Int) / 65536 % 256 = (y1 : Int) := by omega
          have m2 : (x : Int) / 256 % 256 = (y2 : Int) := by omega
          have m3 : (x : Int) % 256 = (y3 : Int) := by omega
          have n0 : IntKind.u8.wrap ((x : Int) / 16777216) = (y0 : Int) := by rw [IntKind.wrap_u8']; exact m0
          have n1 : IntKind.u8.wrap ((x : Int) / 65536) = (y1 : Int) := by rw [IntKind.wrap_u8']; exact m1
          have n2 : IntKind.u8.wrap ((x : Int) / 256) = (y2 : Int) := by rw [IntKind.wrap_u8']; exact m2
          have n3 : IntKind.u8.wrap (x : Int) = (y3 : Int) := by rw [IntKind.wrap_u8']; exact m3
          have keep : ∀ Z, Below w4.heap.size w4 Z → (Below w4.heap.size w4 Z ∧ Z.cell? ⟨gh, j, none⟩ = some (.int .u32 (x : Int))) :=
            fun Z h => ⟨h, (h.cell (p := ⟨gh, j, none⟩) hgh).trans ((hb5.cell (p := ⟨gh, j, none⟩) hgh).symm.trans ca)⟩
          have KEEP := Lib.hid keep; have HNX := Lib.hid hnx; have HR := Lib.hid hrow; have BR := Lib.hid hb5
          have j0 : (0 : Int) ≤ (j : Int) := by omega
          have j1 : (j : Int) < 8 := by omega
          have x1 : 4 * j + 4 ≤ maxLen := by unfold maxLen; omega
          have x2 : (4 * j + 4) * 1 ≤ 140737488355328 := by omega
          clear keep hnx hx hy0 hy1 hy2 hy3 hrow hb5 ca
          go_wp2
          go_region_held3 (fun Z => Below w4.heap.size w4 Z ∧ Z.cell? ⟨gh, j, none⟩ = some (.int .u32 (x : Int)))
            (first | assumption | exact KEEP.out _ BR.out.drew | exact KEEP.out _ hb6 | exact KEEP.out _ (keep_alloc BR.out _).drew | exact KEEP.out _ (keep_alloc BR.out.drew _))
            (first
              | (refine step_append_lies _ (by rfl) _ _ _ (by rfl) w4.heap.size 5 i0 _ 1 1 Tryd.underlying43 hi hz0 hz1 hz2 rfl (by decide) _ (4 * j) (bytesV (preB st j)) (by rfl) ((HR.out.alloc _).drew)
                  ⟨wr.heap.size, 0, none⟩ 4 4 [.int .u8 (y0 : Int), .int .u8 (y1 : Int), .int .u8 (y2 : Int), .int .u8 (y3 : Int)] (by rfl) (by rfl) (World.news_of_block (cs := #[.int .u8 (y0 : Int), .int .u8 (y1 : Int), .int .u8 (y2 : Int), .int .u8 (y3 : Int)]) (t := 5) (fr := (0, 0)) (heap_alloc_new wr _)) (by simp [Value.oneCell'])
                  (by decide) x1 x2 (Below.size (And.left (by assumption))) (wr.heap.size + 1) (by simp) ?_; intro g6 c6 w6 hown6 hgrow _ _; have hb6 := keep_grown (keep_alloc BR.out _).drew hgrow ((HR.out.alloc _).drew))
              | fail)
          go_wp2
          go_roundw
          case rel => exact ⟨j + 1, by go_num, by omega, by rw [HNX.out, Nat.mul_add]; exact hown6, hb6⟩
          case measure => simp [intOf]; omega
        · have hj8 : j = 8 := by omega
          obtain ⟨g6, c6, rfl, hg6, _⟩ := own_some hrow (by omega)
          obtain ⟨m, hm⟩ : ∃ m, m = 4 * j := ⟨_, rfl⟩
          rw [← hm] at hrow ⊢
          obtain ⟨L, hL⟩ : ∃ L, L = bytesOf st := ⟨_, rfl⟩
          have hLb : preB st j = L := by rw [hj8, preB_all, hL]
          have lL : L.length = m := by rw [← hLb, preB_len, hm]
          rw [hLb] at hrow
          have hconv : (convert 43 9 (.slice (some ⟨g6, 0, none⟩) m c6)).run Tryd.prog wr = .ok (.string ⟨L.toArray⟩) wr := by
            have := run_convert_bytes_back (P := Tryd.prog) wr 43 9 5 ⟨g6, 0, none⟩ c6 L Tryd.underlying43 Tryd.underlying5 Tryd.underlying9 (by
              intro i hi
              rw [add_head, hrow.cellAt i (by omega), bytesV, List.getElem?_map, List.getElem?_eq_getElem hi]; rfl)
            rw [lL] at this
            exact this
          have HL := Lib.hid hL; have BR := Lib.hid hb5
          clear hL hrow hb5 lL hLb hm hj8
          go_wp2
          go_ret
          exact ⟨by rw [HF2.out, ← HL.out]; rfl, below_step B4.out BR.out⟩

theorem refleaf_any (s : ByteArray) (hs : s.size ≤ 10000000) (w : World) :
    Calls Tryd.prog 16 #[.string s] w fun e w' => e = .returned (.string (leafS s)) ∧ Below w.heap.size w w' := by
  obtain ⟨T, hT⟩ : ∃ T, leafT s = T := ⟨_, rfl⟩
  have hT2 : (⟨#[0]⟩ : ByteArray) ++ s = T := hT
  have kT : T.size ≤ 100000000 := by rw [← hT, leafT_size]; omega
  have hv : sumS T = leafS s := by rw [← hT, leafT_sum]
  have HV := Lib.hid hv
  clear hT hv
  go_enter Tryd.func16, Tryd.ntmps16
  go_wp2_with fail
  refine (refsum_any T kT _).mono ?_
  rw [HV.out]
  rintro e w1 ⟨rfl, b1⟩
  go_wp2_with fail
  go_ret
  exact ⟨rfl, b1⟩
theorem refnode_any (a b : ByteArray) (ha : a.size ≤ 10000000) (hb : b.size ≤ 10000000) (w : World) :
    Calls Tryd.prog 18 #[.string a, .string b] w fun e w' => e = .returned (.string (nodeS a b)) ∧ Below w.heap.size w w' := by
  obtain ⟨T, hT⟩ : ∃ T, nodeT a b = T := ⟨_, rfl⟩
  have hT2 : (⟨#[1]⟩ : ByteArray) ++ a ++ b = T := hT
  have kT : T.size ≤ 100000000 := by rw [← hT, nodeT_size]; omega
  have hv : sumS T = nodeS a b := by rw [← hT, nodeT_sum]
  have HV := Lib.hid hv
  clear hT hv
  go_enter Tryd.func18, Tryd.ntmps18
  go_wp2_with fail
  refine (refsum_any T kT _).mono ?_
  rw [HV.out]
  rintro e w1 ⟨rfl, b1⟩
  go_wp2_with fail
  go_ret
  exact ⟨rfl, b1⟩
theorem refchain_any (a b : ByteArray) (ha : a.size ≤ 10000000) (hb : b.size ≤ 10000000) (w : World) :
    Calls Tryd.prog 20 #[.string a, .string b] w fun e w' => e = .returned (.string (chainS a b)) ∧ Below w.heap.size w w' := by
  obtain ⟨T, hT⟩ : ∃ T, chainT a b = T := ⟨_, rfl⟩
  have hT2 : (⟨#[2]⟩ : ByteArray) ++ a ++ b = T := hT
  have kT : T.size ≤ 100000000 := by rw [← hT, chainT_size]; omega
  have hv : sumS T = chainS a b := by rw [← hT, chainT_sum]
  have HV := Lib.hid hv
  clear hT hv
  go_enter Tryd.func20, Tryd.ntmps20
  go_wp2_with fail
  refine (refsum_any T kT _).mono ?_
  rw [HV.out]
  rintro e w1 ⟨rfl, b1⟩
  go_wp2_with fail
  go_ret
  exact ⟨rfl, b1⟩
end Go.Proofs.YtjcamhekhfokhaaDoor
