/- The reference implementation of layer 1 returns what the mathematics' text says: PutInt, PutString, Sum. -/
import Derived.Test.YtcmeplgkillbdaaDoorRefMath
import Derived.Test.YtcmeplgkillbdaaDoorUse
namespace Go.Proofs.YtcmeplgkillbdaaDoor
open Go.RowKit

theorem infos : ∃ i0, Tryd.prog.info? 5 = some i0 ∧ i0.zero = some (.int .u8 0) ∧ i0.size = 1 ∧ i0.bytes = 1 := by
  obtain ⟨i0, hi, hz0, hz1, hz2⟩ := info_parts byte_info
  exact ⟨i0, hi, hz0, hz1, hz2⟩

/-- The bytes that the reference's loop has appended: the groups of z but the last ones, y being what is left. -/
theorem leb_step {f y : Nat} (hf : 128 ≤ y) : lebF (f + 1) y = UInt8.ofNat (y % 128 + 128) :: lebF f (y / 128) := by rw [lebF, if_neg (by omega)]

/-- 'string(b)' of a row of the call's own that holds the bytes l. -/
theorem bytes_conv {W : World} {base g n cap : Nat} {l : List UInt8} (h : W.ownsRow base 5 1 (.slice (some ⟨g, 0, none⟩) n cap) n (l.map fun b => Value.int .u8 (b.toNat : Int))) (hn : l.length = n) :
    (convert 38 9 (.slice (some ⟨g, 0, none⟩) n cap)).run Tryd.prog W = .ok (.string ⟨l.toArray⟩) W := by
  subst hn
  refine run_convert_bytes_back W _ _ 5 _ _ l Tryd.underlying38 Tryd.underlying5 Tryd.underlying9 ?_
  intro j hj
  have := h.cellAt j (by omega)
  rw [List.getElem?_map, List.getElem?_eq_getElem hj] at this
  rw [add_head, this]; rfl

set_option maxRecDepth 100000 in
set_option maxHeartbeats 1000000 in
theorem refPut_in (c : Int) (h1 : -4611686018427387903 ≤ c) (h2 : c ≤ 4611686018427387903) (w : World) :
    Calls Tryd.prog 13 #[.int .i64 c] w fun e w' => e = .returned (.tuple #[.string ⟨(enc c).toArray⟩, .int .i64 0]) ∧ Below w.heap.size w w' := by
  obtain ⟨i0, hi, hz0, hz1, hz2⟩ := infos
  have hzl := zig_lt (n := c) h1 h2
  obtain ⟨z, hz⟩ : ∃ z, z = zig c := ⟨_, rfl⟩
  rw [← hz] at hzl
  have HZ := Lib.hid hz; clear hz
  go_enter Tryd.func13, Tryd.ntmps13
  go_wp2_with fail
  refine (zigzag_any _ _ h1 h2).mono ?_
  rw [← HZ.out]
  rintro e w1 ⟨rfl, rfl⟩
  go_wp2_with fail
  go_loopw [4, 5] (fun v o wr => ∃ (pre : List UInt8) (y g : Nat), v = .int .u64 y ∧ lebF 9 z = pre ++ lebF g y ∧ y < 128 ^ g ∧ 0 < g ∧ y ≤ 9223372036854775807 ∧ pre.length + g ≤ 9 ∧
      wr.ownsRow w.heap.size 5 1 o pre.length (pre.map fun b => Value.int .u8 (b.toNat : Int)) ∧ Below w.heap.size w wr)
    (fun v _ _ => (intOf v).toNat)
  case atStart => exact ⟨[], z, 9, rfl, rfl, by rw [pow9]; omega, by omega, by omega, by simp, World.ownsRow_nil _ _ _ _, Below.refl _ _⟩
  case round =>
    obtain ⟨pre, y, g, rfl, hx, hy, hg, hy64, hpl, hrow, hbr⟩ := hrel
    obtain ⟨g, rfl⟩ : ∃ k, g = k + 1 := ⟨g - 1, by omega⟩
    have hs := hbr.size
    by_cases hlt : y < 128
    · have e : lebF (g + 1) y = [UInt8.ofNat y] := by rw [lebF, if_pos hlt]
      rw [e] at hx
      have H := Lib.hid hx; have HY := Lib.hid hy; have EY := Lib.hid (show ((UInt8.ofNat y).toNat : Int) = (y : Int) by rw [toNat_lo hlt]); clear hx e hy
      go_wp2_with (at_builtin; refine wpList_append_own _ rfl _ _ 38 rfl w.heap.size 5 i0 (.int .u8 0) 1 1 Tryd.underlying38 hi hz0 hz1 hz2 rfl (by decide) _ _ _ rfl (hrow.alloc _) ⟨wr.heap.size, 0, none⟩ 1 1 [.int .u8 (y : Int)] rfl rfl (cell_one_new _ _ _) (by simp [Value.oneCell']) (by unfold maxLen; omega) (by omega) (by simp; omega) ?_; intro v' w1 hown' hgrow _; obtain ⟨g', cap', rfl⟩ := ownsRow_succ hown'; have hcv := bytes_conv (l := pre ++ [UInt8.ofNat y]) (by simp only [List.map_append, List.map_cons, List.map_nil, EY.out]; exact hown') (by simp))
      go_ret2
      exact ⟨ret_str2 (by rw [enc, leb9 (by rw [← HZ.out]; omega), ← HZ.out, H.out]), (hbr.alloc hs _).grown hgrow (by simp; omega) (fun k hk => (hrow.lt k hk).1)⟩
    · have e : lebF (g + 1) y = UInt8.ofNat (y % 128 + 128) :: lebF g (y / 128) := leb_step (by omega)
      rw [e] at hx
      have hg0 : 0 < g := by
        rcases Nat.eq_zero_or_pos g with h1 | h1
        · subst h1; simp at hy; omega
        · exact h1
      have hp : y / 128 < 128 ^ g := by rw [Nat.pow_succ] at hy; omega
      have H := Lib.hid hx; have HP := Lib.hid hp; clear hx e hy hp
      go_wp2_with (at_builtin; refine wpList_append_own _ rfl _ _ 38 rfl w.heap.size 5 i0 (.int .u8 0) 1 1 Tryd.underlying38 hi hz0 hz1 hz2 rfl (by decide) _ _ _ rfl (hrow.alloc _) ⟨wr.heap.size, 0, none⟩ 1 1 [.int .u8 ((y : Int) % 128 + 128)] rfl rfl (cell_one_new _ _ _) (by simp [Value.oneCell']) (by unfold maxLen; omega) (by omega) (by simp; omega) ?_; intro v' w1 hown' hgrow _; obtain ⟨g', cap', rfl⟩ := ownsRow_succ hown')
      go_roundw
      case rel =>
        refine ⟨pre ++ [UInt8.ofNat (y % 128 + 128)], y / 128, g, by go_num, by rw [H.out]; simp, HP.out, hg0, by omega, by simp; omega, ?_, ?_⟩
        · have e2 : ((UInt8.ofNat (y % 128 + 128)).toNat : Int) = (y : Int) % 128 + 128 := by rw [toNat_hi]; omega
          simp only [List.length_append, List.map_append, List.map_cons, List.map_nil, e2, List.length_cons, List.length_nil]
          exact hown'
        · exact (hbr.alloc hs _).grown hgrow (by simp; omega) (fun k hk => (hrow.lt k hk).1)
      case measure => simp [intOf]; omega
end Go.Proofs.YtcmeplgkillbdaaDoor
