/- wire.groups (the function that is ranged over) and wire.encode, whose loop ranges over it: encode returns the groups' bytes. -/
import Derived.RangeFuncNested
import Derived.RangeFuncBound
import Derived.RangeFuncCalls
import Derived.RangeFuncLeaves
import Derived.RangeFuncBox
import Derived.Shelf.Abstract
import Derived.Shelf.RegionOpen
import Derived.OwnWalkIn
import Derived.TacticsInMore
import Derived.LoopNIn
import Derived.LoopIn
import Derived.Maps.AppendAt
import Derived.Laws.IdiomStrings
import Derived.Test.YtcmeplgkillbdaaDoorLeaf
namespace Go.Proofs.YtcmeplgkillbdaaDoor
open Go.RowKit Go.Shelf

/-- The groups as the iterator hands them over: the group, and whether it is the last one. -/
def glF : Nat → Nat → List (Int × Bool)
  | 0, _ => []
  | f + 1, z => if z < 128 then [((z : Int), true)] else ((z : Int) % 128, false) :: glF f (z / 128)
def byteOf (x : Int × Bool) : Int := if x.2 = true then x.1 else bits .or .u8 x.1 128

section
attribute [local go_sem] Oper.semAt_some
set_option maxRecDepth 100000 in
set_option maxHeartbeats 1000000 in
theorem groups1_in (F : Fence) (n : Nat) (h6 : F.fn 29) (hro : F.round = none) (hn : 1 ≤ n) (l Bn n₀ : Nat) (z f : Nat) (hz : z < 128 ^ f) (hf : 0 < f) (hz64 : z ≤ 18446744073709551615) (J Jx : List (Int × Bool) → World → Prop)
    (hY : ∀ pre x W, J pre W → pre.length < (glF f z).length → YieldAt F (n - 1) Tryd.prog l #[.int .u8 x.1, .bool x.2] W fun e W' =>
      (e = .returned (.bool true) ∧ J (pre ++ [x]) W' ∧ Below n₀ W W') ∨ (e = .returned (.bool false) ∧ Jx (pre ++ [x]) W'))
    (W : World) (hBn : W.cell? ⟨Bn, 0, none⟩ = some (.int .u64 z)) (h0 : J [] W) :
    CallsIn F n Tryd.prog 29 #[.func (.yield l) #[] #[], .pointer (some ⟨Bn, 0, none⟩)] W fun e W' => (∃ v, e = .returned v) ∧
      ((∃ ys, ys = glF f z ∧ J ys W') ∨ (∃ pre, pre <+: glF f z ∧ Jx pre W')) := by
  refine callsIn_of_wp Tryd.func29 rfl h6 ?_ hro
  simp only [Tryd.ntmps29, List.size_toArray, List.length_cons, List.length_nil, Nat.reduceAdd, Nat.reduceSub, Array.replicate_succ, Array.replicate_zero, List.push_toArray, List.append_toArray, List.nil_append, List.cons_append]
  gi_wp2
  gi_loopw [3] (fun p wr => ∃ (pre : List (Int × Bool)) (y g : Nat), p = .int .u64 y ∧ glF f z = pre ++ glF g y ∧ y < 128 ^ g ∧ 0 < g ∧ y ≤ 18446744073709551615 ∧ J pre wr)
    (fun p wr => (intOf p).toNat)
  case atStart =>
    exact ⟨[], z, f, rfl, rfl, hz, hf, hz64, h0⟩
  case round =>
    obtain ⟨pre, y, g, rfl, hx, hy, hg, hy64, hJs⟩ := hrel
    obtain ⟨g, rfl⟩ : ∃ k, g = k + 1 := ⟨g - 1, by omega⟩
    by_cases hlt : y < 128
    · have e : glF (g + 1) y = [((y : Int), true)] := by rw [glF, if_pos hlt]
      rw [e] at hx
      obtain ⟨fn, tmps, assign, body, hy1, hR⟩ := hY pre ((y : Int), true) wr hJs (by rw [hx]; simp)
      have H := Lib.hid hx; clear hx e
      gi_wp2
      refine hR.mono ?_
      rintro e W3 (⟨rfl, hJ3, hk3⟩ | ⟨rfl, hJx3⟩)
      · gi_wp2
        go_end0
        exact ⟨⟨_, rfl⟩, .inl ⟨_, rfl, by rw [H.out]; exact hJ3⟩⟩
      · gi_wp2
        go_end0
        exact ⟨⟨_, rfl⟩, .inr ⟨pre ++ [((y : Int), true)], by rw [H.out]; exact List.prefix_refl _, hJx3⟩⟩
    · have e : glF (g + 1) y = ((y : Int) % 128, false) :: glF g (y / 128) := by rw [glF, if_neg hlt]
      rw [e] at hx
      have hg0 : 0 < g := by
        rcases Nat.eq_zero_or_pos g with h1 | h1
        · subst h1; simp at hy; omega
        · exact h1
      have hp : y / 128 < 128 ^ g := by rw [Nat.pow_succ] at hy; omega
      obtain ⟨fn, tmps, assign, body, hy1, hR⟩ := hY pre ((y : Int) % 128, false) wr hJs (by rw [hx]; simp)
      have H := Lib.hid hx; clear hx e
      gi_wp2
      refine hR.mono ?_
      rintro e W3 (⟨rfl, hJ3, hk3⟩ | ⟨rfl, hJx3⟩)
      · gi_wp2
        go_roundw
        case rel => exact ⟨pre ++ [((y : Int) % 128, false)], y / 128, g, by go_num, by rw [H.out]; simp, hp, hg0, by omega, hJ3⟩
        case measure => simp [intOf]; omega
      · gi_wp2
        refine bodyPost_ret (results_none rfl _ _ _) rfl ?_
        exact ⟨⟨_, rfl⟩, .inr ⟨pre ++ [((y : Int) % 128, false)], by rw [H.out]; simp, hJx3⟩⟩

theorem groups_in (F : Fence) (n : Nat) (hg : F.fn 27) (hro : F.round = none) (z : Nat) (w : World) :
    CallsIn F n Tryd.prog 27 #[.int .u64 z] w fun e w' => e = .returned (.func (.func 29) #[] #[.pointer (some ⟨w.heap.size, 0, none⟩)]) ∧ w' = w.alloc (.cells #[.int .u64 z] 47) := by
  refine callsIn_of_wp Tryd.func27 rfl hg ?_ hro
  simp only [Tryd.ntmps27, List.size_toArray, List.length_cons, List.length_nil, Nat.reduceAdd, Nat.reduceSub, Array.replicate_succ, Array.replicate_zero, List.push_toArray, List.append_toArray, List.nil_append, List.cons_append]
  gi_wp2
  go_ret
  exact ⟨rfl, rfl⟩

theorem groups_stops (F : Fence) (n : Nat) (h6 : F.fn 29) (hro : F.round = none) (hn : 1 ≤ n) (Bn n₀ : Nat) (z f : Nat) (hz : z < 128 ^ f) (hf : 0 < f) (hz64 : z ≤ 18446744073709551615) (w : World) (hBn : Bn < w.heap.size)
    (hc : w.cell? ⟨Bn, 0, none⟩ = some (.int .u64 z)) :
    SeqStopsK F n Tryd.prog 29 #[.pointer (some ⟨Bn, 0, none⟩)] (fun x : Int × Bool => #[Value.int .u8 x.1, .bool x.2]) (Below n₀) (fun ys => ys = glF f z) (fun pre => pre <+: glF f z) (glF f z).length w := fun l J Jx W hW _ _ hY h0 =>
  groups1_in F n h6 hro hn l Bn n₀ z f hz hf hz64 J Jx hY W ((hW.cell (p := ⟨Bn, 0, none⟩) hBn).trans hc) h0

theorem byte_info : (Tryd.prog.info? 5).map (fun i => (i.zero, i.size, i.bytes)) = some (some (.int .u8 0), 1, 1) := by kernel_rfl

theorem glF_len : ∀ (f z : Nat), (glF f z).length = (lebF f z).length
  | 0, _ => rfl
  | f + 1, z => by unfold glF lebF; split <;> simp [glF_len f]
theorem or128 (a : Nat) (h : a < 128) : bits .or .u8 (a : Int) 128 = ((a + 128 : Nat) : Int) := by
  have := u8_or_nat a 128 (by omega) (by omega)
  have e : a ||| 128 = a + 128 := by
    have := Nat.two_pow_add_eq_or_of_lt (i := 7) (b := a) (by omega) 1
    rw [Nat.or_comm]; simp at this; omega
  rw [e] at this; exact this
theorem gl_leb : ∀ (f z : Nat), (glF f z).map byteOf = (lebF f z).map (fun b => (b.toNat : Int))
  | 0, _ => rfl
  | f + 1, z => by
    unfold glF lebF
    by_cases hz : z < 128
    · simp only [if_pos hz, List.map_cons, List.map_nil, byteOf, if_true]
      rw [toNat_lo hz]
    · simp only [if_neg hz, List.map_cons, gl_leb f, byteOf]
      rw [toNat_hi]
      have := or128 (z % 128) (by omega)
      simp at this ⊢
      exact this

set_option maxRecDepth 100000 in
set_option maxHeartbeats 2000000 in
theorem encode_in (F : Fence) (n : Nat) (h3 : F.fn 23) (h4 : F.fn 27) (h5 : F.fn 29) (h6 : F.fn 28) (hro : F.round = none) (hn : 3 ≤ n)
    (c : Int) (h1 : -4611686018427387903 ≤ c) (h2 : c ≤ 4611686018427387903) (w : World)
    (hfold : ∀ w : World, CallsIn F (n - 1) Tryd.prog 28 #[.int .i64 c] w fun e w' => e = .returned (.int .u64 (zig c)) ∧ w = w') :
    CallsIn F n Tryd.prog 23 #[.int .i64 c] w fun e W' => e = .returned (.string ⟨(enc c).toArray⟩) ∧ Below w.heap.size w W' := by
  have hn1 : 1 ≤ n := by omega
  obtain ⟨i0, hi, hz0, hz1, hz2⟩ := info_parts byte_info
  refine callsIn_of_wp_marks Tryd.func23 rfl h3 ?_ hro
  simp only [Tryd.ntmps23, List.size_toArray, List.length_cons, List.length_nil, Nat.reduceAdd, Nat.reduceSub, Array.replicate_succ, Array.replicate_zero, List.push_toArray, List.append_toArray, List.nil_append, List.cons_append]
  gi_wp2_with (first | (gi_at_call 28; refine (hfold _).mono ?_; rintro e w' ⟨rfl, rfl⟩) | (gi_at_call 27; refine (groups_in F (n - 1) h4 hro _ _).mono ?_; rintro e w' ⟨rfl, rfl⟩))
  have hzl := zig_lt (n := c) h1 h2
  have bO := Boxed.new w 38 (.slice none 0 0)
  have bN := Boxed.new (w.alloc (.cells #[.slice none 0 0] 38)) 47 (.int .u64 (zig c))
  rw [World.size_alloc] at bN
  have hB0 : Below w.heap.size w ((w.alloc (.cells #[.slice none 0 0] 38)).alloc (.cells #[.int .u64 (zig c)] 47)) := ((Below.refl _ w).alloc (Nat.le_refl _) _).alloc (by simp) _
  have hlen9 : (glF 9 (zig c)).length ≤ 9 := by rw [glF_len]; exact (lebF_len 9 _ (by omega)).2
  refine wpIn_rangeFunc_ownG hro hn1 (gf := 29) (lb := #[.pointer (some ⟨w.heap.size + 1, 0, none⟩)]) rfl h5 (enters_of Tryd.func29 (by kernel_rfl) rfl)
    (groups_stops F (n - 1) h5 hro (by omega) (w.heap.size + 1) w.heap.size (zig c) 9 (by rw [pow9]; omega) (by omega) (by omega) _ (by simp) bN.cell) belowK_t (belowK_b (by simp; omega)) (Below.refl _ _) (fun _ => rfl)
    (fun (pre : List (Int × Bool)) W => (∃ v, Boxed W w.heap.size 38 v ∧ W.ownsRow w.heap.size 5 1 v pre.length (pre.map fun x => Value.int .u8 (byteOf x)) ∧ True) ∧ Below w.heap.size w W)
    (fun _ _ _ => False)
    (OwnFrom.and (Own.from (holdsRow_own w.heap.size w.heap.size 38 5 1 (fun pre : List (Int × Bool) => pre.length) (fun pre => pre.map fun x : Int × Bool => Value.int .u8 (byteOf x)) (fun _ _ => True)) _) (ownFrom_below (Nat.le_refl _) (by simp; omega)))
    (fun _ _ _ _ _ hs _ _ => hs)
    ⟨⟨_, bO.alloc _, World.ownsRow_nil _ _ _ _, trivial⟩, hB0⟩
    (fun x => { tmps := #[.int .i64 c, undef, .string { data := #[] }, .pointer (some ⟨w.heap.size, 0, none⟩), .int .u8 x.1, .bool x.2, .int .i64 c, .int .u64 (zig c), .func (.func 29) #[] #[.pointer (some ⟨w.heap.size + 1, 0, none⟩)], .int .u8 x.1, .bool x.2, undef, undef, undef, undef, undef, undef, undef, undef, undef, undef], defers := [] }) ?assign ?body ?done ?stop
  case assign =>
    intro l x W K hK
    gi_wp2
    exact hK
  case body =>
    rintro l pre ⟨g, last⟩ W ⟨⟨v, hv, hrow, -⟩, hB⟩ hlt
    have hc := hv.cell
    dsimp only
    cases last
    · have hb : byteOf (g, false) = bits .or .u8 g 128 := rfl
      have Hb := Lib.hid hb; clear hb
      gi_wp2_with (gi_at_builtin; refine wpListIn_append_own _ rfl _ _ 38 rfl w.heap.size 5 i0 (.int .u8 0) 1 1 Tryd.underlying38 hi hz0 hz1 hz2 rfl (by decide) _ _ _ rfl (hrow.alloc _) ⟨W.heap.size, 0, none⟩ 1 1 [.int .u8 (bits .or .u8 g 128)] rfl rfl (cell_one_new _ _ _) (by simp [Value.oneCell']) (by unfold maxLen; omega) (by omega) (by have := hB.size; simp; omega) ?_; intro v' w1 hown' hgrow _; obtain ⟨g', cap', rfl⟩ := ownsRow_succ hown'; obtain ⟨hv1, hv2, hr2, hk2, hb2⟩ := hv.appended (by decide) hrow hB.size (Nat.le_refl _) hown' hgrow; have hc1 := hv1.cell; have hf1 := hv1.frozen)
      exact ⟨hk2.from _, hb2, ⟨_, hv2, by simpa [Hb.out] using hr2, trivial⟩, hB.trans hb2⟩
    · gi_wp2_with (gi_at_builtin; refine wpListIn_append_own _ rfl _ _ 38 rfl w.heap.size 5 i0 (.int .u8 0) 1 1 Tryd.underlying38 hi hz0 hz1 hz2 rfl (by decide) _ _ _ rfl (hrow.alloc _) ⟨W.heap.size, 0, none⟩ 1 1 [.int .u8 g] rfl rfl (cell_one_new _ _ _) (by simp [Value.oneCell']) (by unfold maxLen; omega) (by omega) (by have := hB.size; simp; omega) ?_; intro v' w1 hown' hgrow _; obtain ⟨g', cap', rfl⟩ := ownsRow_succ hown'; obtain ⟨hv1, hv2, hr2, hk2, hb2⟩ := hv.appended (by decide) hrow hB.size (Nat.le_refl _) hown' hgrow; have hc1 := hv1.cell; have hf1 := hv1.frozen)
      exact ⟨hk2.from _, hb2, ⟨_, hv2, by simpa [byteOf] using hr2, trivial⟩, hB.trans hb2⟩
  case done =>
    rintro D ys W hD hys ⟨⟨v, hv, hrow, -⟩, hB⟩ hK
    have hys' : (ys.map fun x => Value.int .u8 (byteOf x)) = (enc c).map (fun b => Value.int .u8 (b.toNat : Int)) := by
      subst hys
      have := congrArg (List.map (Value.int IntKind.u8)) (gl_leb 9 (zig c))
      simp only [List.map_map] at this
      rw [enc, leb9 (by omega)]
      exact this
    have hl : ys.length = (enc c).length := by
      have := congrArg List.length hys'
      simpa using this
    rw [hys', hl] at hrow
    clear hys hys' hl
    obtain ⟨k, hk⟩ : ∃ k, (enc c).length = k + 1 := ⟨(enc c).length - 1, by have := (enc_len c h1 h2).1; omega⟩
    rw [hk] at hrow
    obtain ⟨g, cap, rfl⟩ := ownsRow_succ hrow
    have hc := hv.cell
    have hconv : (convert 38 9 (.slice (some ⟨g, 0, none⟩) (k + 1) cap)).run Tryd.prog W = .ok (.string ⟨(enc c).toArray⟩) W := by
      rw [← hk]
      refine run_convert_bytes_back W _ _ 5 _ _ (enc c) Tryd.underlying38 Tryd.underlying5 Tryd.underlying9 ?_
      intro j hj
      have := hrow.cellAt j (by omega)
      rw [List.getElem?_map, List.getElem?_eq_getElem hj] at this
      have ea : (⟨g, 0, none⟩ : Addr).add j = ⟨g, j, none⟩ := by unfold Addr.add; split <;> simp_all
      rw [ea, this]; rfl
    gi_wp2
    refine ⟨by simp, .inl ⟨_, _, rfl, run_takeDeferred hK, ?_⟩⟩
    exact ⟨_, results_tmp rfl _ _ _, rfl, hB.trans (belowK_b (w := w) (Nat.le_refl _) W D _ _ (by simp at hD; omega) hK rfl rfl)⟩
  case stop =>
    rintro D c pre W _ _ h _
    exact h.elim
end
end Go.Proofs.YtcmeplgkillbdaaDoor
