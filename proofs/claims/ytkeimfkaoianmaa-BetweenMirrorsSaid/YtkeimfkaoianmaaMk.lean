/- slices.Repeat, emptyChains and what it returns. -/
import Derived.Test.YtkeimfkaoianmaaTbl
import Derived.Laws.Bits64b
import Derived.Laws.CopyRow
import Derived.Deep.OwnRows
import Derived.Laws.CopyOwn
namespace Go.Proofs.Ytkeimfkaoianmaa
open Go.RowKit

set_option maxRecDepth 100000 in
theorem mul64_any (n : Nat) (hn : n ≤ 1000) (w : World) : Calls Try.prog 72 #[.int .u64 1, .int .u64 (n : Int)] w fun e w' => e = .returned (.tuple #[.int .u64 0, .int .u64 (n : Int)]) ∧ w' = w := by
  have h1 : bits .and .u64 (n : Int) 4294967295 = (n : Int) := by
    have h := Go.bits_and_u64_nat n 4294967295 (by omega) (by omega)
    rw [show n &&& 4294967295 = n % 4294967296 from Nat.and_two_pow_sub_one_eq_mod n 32, Nat.mod_eq_of_lt (by omega)] at h
    exact h
  have h2 : bits .and .u64 1 4294967295 = 1 := by decide +kernel
  have h3 : (n : Int) / 4294967296 = 0 := by omega
  have h4 : bits .and .u64 0 4294967295 = 0 := by decide +kernel
  have h5 : IntKind.u64.wrap (n : Int) = (n : Int) := by rw [IntKind.wrap_u64]; omega
  go_enter Try.func72, Try.ntmps72
  go_wp2
  go_ret2
  exact ⟨by simp, rfl⟩
set_option maxRecDepth 100000 in
theorem mul_any (n : Nat) (hn : n ≤ 1000) (w : World) : Calls Try.prog 70 #[.int .u64 1, .int .u64 (n : Int)] w fun e w' => e = .returned (.tuple #[.int .u64 0, .int .u64 (n : Int)]) ∧ w' = w := by
  go_enter Try.func70, Try.ntmps70
  go_wp2_with (go_at_call 72; (with_reducible refine (mul64_any n hn _).mono ?_); rintro e w' ⟨rfl, rfl⟩)
  go_ret2
  exact ⟨rfl, rfl⟩

theorem int_info : (Try.prog.info? 3).map (fun i => (i.zero, i.size, i.bytes)) = some (some (.int .i64 0), 1, 8) := by kernel_rfl
theorem sl_info : (Try.prog.info? 22).map (fun i => (i.zero, i.size, i.bytes)) = some (some (.slice none 0 0), 1, 24) := by kernel_rfl
theorem int_size : (Try.prog.info? 3).map (·.size) = some 1 := by kernel_rfl
theorem made_row (n : Nat) : madeCells #[Value.int .i64 0] n = rowA n fun _ => 0 := by
  have h : (madeCells #[Value.int .i64 0] n).toList = (rowA n fun _ => 0).toList := by
    rw [toList_madeCells_one]
    simp only [rowA]
    apply List.ext_getElem?
    intro i
    by_cases hi : i < n
    · simp [hi]
    · simp [hi]
  exact Array.toList_inj.1 h
/-- copy of a whole row of n integers over another one. -/
theorem copy_all (w : World) (ty : TypeId) (h hs n : Nat) (f : Int → Int) (C : Array Value) (hr : Row w h 3 C) (hC : C.size = n) (hc : ∀ j : Nat, j < n → w.cell? ⟨hs, j, none⟩ = some (.int .i64 (f j))) :
    (Builtin.copy_ #[22, 22] ty #[.slice (some ⟨h, 0, none⟩) n n, .slice (some ⟨hs, 0, none⟩) n n]).run Try.prog w = .ok (goInt n) (w.setRow h (rowA n f)) := by
  have hl : (rowA n f).toList.length = n := by simp [rowA]
  have := run_copy_row (P := Try.prog) w 22 22 ty 3 h 0 n n ⟨hs, 0, none⟩ n n C 3 (rowA n f).toList Try.underlying22 int_size hr (by rw [hl]; exact (Nat.min_self n).symm)
    (fun j v hv => by
      have hj : j < n := by
        rcases Nat.lt_or_ge j n with k | k
        · exact k
        · rw [List.getElem?_eq_none (by omega)] at hv; cases hv
      have e : (rowA n f)[j]? = some v := by simpa using hv
      rw [rowA_at f hj] at e; cases e
      have := hc j hj
      have e0 : (⟨hs, 0, none⟩ : Addr).add j = ⟨hs, j, none⟩ := by unfold Addr.add; split <;> simp_all
      rw [e0]; exact this)
    (by rw [hl, hC]; omega)
    (fun v hv => by simp [rowA] at hv; obtain ⟨a, _, rfl⟩ := hv; rfl)
  rw [hl] at this
  rw [this, List.take_zero, List.nil_append, List.drop_of_length_le (by simp [hC]), List.append_nil]

/-- copy of the first k integers over those from k on, as far as they go. -/
theorem copy_over (w : World) (ty : TypeId) (g n k m c : Nat) (x : Int) (C : Array Value) (hr : Row w g 3 C) (hC : C.size = n) (hk : k < n) (hm : m = min k (n - k)) (hx : ∀ j, j < k → C[j]? = some (.int .i64 x)) :
    ∃ D : Array Value, D.size = n ∧ (∀ j, j < k + m → D[j]? = some (.int .i64 x)) ∧ (Builtin.copy_ #[22, 22] ty #[.slice (some ⟨g, k, none⟩) (n - k) (n - k), .slice (some ⟨g, 0, none⟩) k c]).run Try.prog w = .ok (goInt m) (w.setRow g D) := by
  have hl : (List.replicate m (Value.int .i64 x)).length = m := by simp
  have := run_copy_row (P := Try.prog) w 22 22 ty 3 g k (n - k) (n - k) ⟨g, 0, none⟩ k c C 3 (List.replicate m (.int .i64 x)) Try.underlying22 int_size hr (by rw [hl, hm])
    (fun j v hv => by
      have hj : j < m := by
        rcases Nat.lt_or_ge j m with k | k
        · exact k
        · rw [List.getElem?_eq_none (by omega)] at hv; cases hv
      rw [List.getElem?_replicate, if_pos hj] at hv; cases hv
      have := hr.at (hx j (by omega))
      have e0 : (⟨g, 0, none⟩ : Addr).add j = ⟨g, j, none⟩ := by unfold Addr.add; split <;> simp_all
      rw [e0]; exact this)
    (by rw [hl, hC]; omega)
    (fun v hv => by rw [List.mem_replicate] at hv; obtain ⟨_, rfl⟩ := hv; rfl)
  rw [hl] at this
  refine ⟨_, ?_, fun j hj => ?_, this⟩
  · simp [hC]; omega
  · rw [List.getElem?_toArray]
    rcases Nat.lt_or_ge j k with h | h
    · rw [List.getElem?_append_left (by simp [hC]; omega), List.getElem?_append_left (by simp [hC]; omega), List.getElem?_take_of_lt h]
      have := hx j h
      simpa using this
    · rw [List.getElem?_append_left (by simp [hC]; omega), List.getElem?_append_right (by simp [hC]; omega), List.getElem?_replicate, if_pos (by simp [hC]; omega)]

theorem zero_size (n : Nat) : (rowA n fun _ => 0).size = n := rowA_size _ _
def fillX (C : Array Value) (k : Nat) (x : Int) : Prop := ∀ j, j < k → C[j]? = some (.int .i64 x)
theorem fill_all {C : Array Value} {n : Nat} {x : Int} (hC : C.size = n) (h : fillX C n x) : C = rowA n fun _ => x := by
  apply Array.ext_getElem?
  intro i
  by_cases hi : i < n
  · rw [h i hi, rowA_at _ hi]
  · rw [Array.getElem?_eq_none (by omega), Array.getElem?_eq_none (by rw [rowA_size]; omega)]
theorem below_row {B : Nat} {a w : World} {g : Nat} (h : Below B a w) (hg : B ≤ g) (D : Array Value) : Below B a (w.setRow g D) := below_setRow h hg D
theorem setRow_self {w : World} {g : Nat} {t : TypeId} {C : Array Value} (h : Row w g t C) (D : Array Value) : Row (w.setRow g D) g t D := setRow_heap w g _ _ t _ h
theorem setRow_aside {w : World} {g g' : Nat} {t : TypeId} {C : Array Value} (h : Row w g t C) (hne : g ≠ g') (D : Array Value) : Row (w.setRow g' D) g t C := (setRow_other w g' g D hne).trans h

set_option maxRecDepth 100000 in
set_option maxHeartbeats 4000000 in
theorem repeat_any (a n c : Nat) (x : Int) (hn0 : 0 < n) (hn : n ≤ 1000) (w : World) (ha : w.cell? ⟨a, 0, none⟩ = some (.int .i64 x)) :
    Calls Try.prog 66 #[.slice (some ⟨a, 0, none⟩) 1 c, .int .i64 (n : Int)] w fun e w' => e = .returned (.slice (some ⟨w.heap.size, 0, none⟩) n n) ∧ Row w' w.heap.size 3 (rowA n fun _ => x) ∧ Below w.heap.size w w' := by
  have hmk := fun (W : World) => run_make_row' (P := Try.prog) 22 3 (.int .i64 0) 8 Try.underlying22 int_info rfl .i64 .i64 n (by omega) (by omega) W
  simp only [made_row] at hmk
  obtain ⟨W1, hW1⟩ : ∃ W1, W1 = w.alloc (.cells (rowA n fun _ => 0) 3) := ⟨_, rfl⟩
  have r1 : Row W1 w.heap.size 3 (rowA n fun _ => 0) := by rw [hW1]; exact Row.made _ _ _
  have b1 : Below w.heap.size w W1 := by rw [hW1]; exact below_alloc _ _
  have hain : a < w.heap.size := World.block_lt_of_cell? _ _ ha
  have hcp := run_copy_row (P := Try.prog) W1 22 22 3 3 w.heap.size 0 n n ⟨a, 0, none⟩ 1 c (rowA n fun _ => 0) 3 [.int .i64 x] Try.underlying22 int_size r1 (by simp [Nat.min_def]; omega)
    (fun j v hv => by
      have e : j = 0 := by
        rcases Nat.eq_zero_or_pos j with h | h
        · exact h
        · rw [List.getElem?_eq_none (show [Value.int .i64 x].length ≤ j from h)] at hv; cases hv
      subst e
      cases hv
      have := b1.cell (p := ⟨a, 0, none⟩) hain
      unfold Addr.add
      rw [if_pos rfl]
      exact this.trans ha)
    (by rw [rowA_size]; exact hn0) (fun v hv => by simp at hv; subst hv; rfl)
  obtain ⟨D, hD⟩ : ∃ D, D = (List.take 0 (rowA n fun _ => 0).toList ++ [Value.int .i64 x] ++ List.drop (0 + [Value.int .i64 x].length) (rowA n fun _ => 0).toList).toArray := ⟨_, rfl⟩
  rw [← hD] at hcp
  have sD : D.size = n := by rw [hD]; simp [rowA]; omega
  have fD : fillX D 1 x := by
    intro j hj
    obtain rfl : j = 0 := by omega
    rw [hD]; rfl
  have r2 := setRow_self r1 D
  have b2 := below_row b1 (Nat.le_refl _) D
  have hconv : IntKind.u64.wrap (n : Int) = (n : Int) := by rw [IntKind.wrap_u64]; omega
  have HMK := hmk w
  rw [← hW1] at HMK
  clear hmk hD r1 b1 ha hW1
  have R2 := Lib.hid r2; have B2 := Lib.hid b2; have FD := Lib.hid fD; have SD := Lib.hid sD
  clear r2 b2 fD sD
  go_enter Try.func66, Try.ntmps66
  go_wp2_with (go_at_call 70; (with_reducible refine (mul_any n hn _).mono ?_); rintro e wx ⟨rfl, hwx⟩; have hwx := hwx.symm; subst hwx)
  go_loopg [8] n (fun kx s8 wr => ∃ (k : Nat) (C : Array Value), s8 = .int .i64 (k : Int) ∧ k ≤ n ∧ k + kx = n + 1 ∧ 1 ≤ k ∧ Row wr w.heap.size 3 C ∧ C.size = n ∧ fillX C k x ∧ Below w.heap.size w wr)
  case atStart => exact ⟨1, D, rfl, by omega, by omega, by omega, R2.out, SD.out, FD.out, B2.out⟩
  case round =>
    clear R2 B2 FD SD HMK hcp
    obtain ⟨k, C, rfl, hk, hkx, hk1, hr, hC, hf, hb⟩ := hrel
    by_cases hlt : k < n
    · obtain ⟨m, hm⟩ : ∃ m, m = min k (n - k) := ⟨_, rfl⟩
      obtain ⟨D2, sD2, fD2, hcp⟩ := copy_over wr.drew 3 w.heap.size n k m n x C hr.drawn hC hlt hm hf
      have m1 : k + m ≤ n := by omega
      have m2 : 1 ≤ m := by omega
      have r3 := setRow_self hr.drawn D2
      have b3 := below_row hb.drew (Nat.le_refl _) D2
      have k1 : (k : Int) ≤ (n : Int) := by omega
      have k2 : (0 : Int) ≤ (k : Int) := by omega
      have k3 : ¬ (n = k) := by omega
      have R3 := Lib.hid r3; have B3 := Lib.hid b3; have SD := Lib.hid sD2; have FD := Lib.hid fD2; have HM := Lib.hid hm
      clear hr hb hC hf r3 b3 sD2 fD2 hm
      go_wp2
      go_region
      all_goals go_wp2
      all_goals go_roundg (n + 1 - (k + m))
      case measure => have := HM.out; omega
      case rel => exact ⟨k + m, D2, by go_num, by omega, by omega, by omega, R3.out, SD.out, FD.out, B3.out⟩
    · obtain rfl : k = n := by omega
      have HR := Lib.hid hr; have HB := Lib.hid hb; have HC := Lib.hid hC; have HF := Lib.hid hf
      clear hr hb hC hf
      go_wp2
      go_ret
      exact ⟨rfl, by rw [← fill_all HC.out HF.out]; exact HR.out, HB.out⟩
end Go.Proofs.Ytkeimfkaoianmaa
