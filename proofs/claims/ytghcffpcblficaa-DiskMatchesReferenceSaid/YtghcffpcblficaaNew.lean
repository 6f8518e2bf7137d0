/- New. -/
import Derived.Test.YtghcffpcblficaaSur
namespace Go.Proofs.Ytghcffpcblficaa
open Go.RowKit Go.Lib

set_option maxRecDepth 100000 in
theorem new_bad (n : Int) (hn : ¬ (1 ≤ n ∧ n ≤ 4194304)) (w : World) : Calls Try.prog 13 #[.int .i64 n] w fun e w' => e = .returned (.tuple #[.pointer none, .int .i64 2]) ∧ w' = w := by
  by_cases h1 : n < 1
  · clear hn
    go_enter Try.func13, Try.ntmps13
    go_wp2
    go_ret2
    exact ⟨rfl, rfl⟩
  · have h2 : 4194304 < n := by omega
    clear hn
    go_enter Try.func13, Try.ntmps13
    go_wp2
    go_ret2
    exact ⟨rfl, rfl⟩
theorem zeros_len (n : Nat) : (newD n).dur.length = n := by simp [newD]
theorem bytes_zero (n : Nat) : byteCells (List.replicate n (0 : UInt8)) = List.replicate n (.int .u8 0) := by simp [byteCells]
set_option maxRecDepth 100000 in
set_option maxHeartbeats 8000000 in
theorem new_any (n : Nat) (h1 : 1 ≤ n) (h2 : n ≤ 4194304) (w : World) : Calls Try.prog 13 #[.int .i64 n] w fun e w' => ∃ h : Dh, e = .returned (.tuple #[.pointer (some ⟨h.g, 0, none⟩), .int .i64 0]) ∧ DiskM w' w.heap.size h (newD n) ∧ Below w.heap.size w w' := by
  obtain ⟨i0, hi, hz0, hz1, hz2⟩ := info_parts u8_info
  obtain ⟨M, hM⟩ : ∃ M, M = madeCells (Value.int .u8 0).cells (((n : Nat) : Int).toNat * i0.size) := ⟨_, rfl⟩
  have hml : M = (byteCells (List.replicate n 0)).toArray := by
    apply Array.ext'
    rw [hM, hz1, Nat.mul_one, Int.toNat_natCast, bytes_zero]
    show (madeCells #[Value.int .u8 0] n).toList = _
    rw [toList_madeCells_one]
  have hmk : ∀ W : World, (Instr.makeSlice 61 (.int .i64 (n : Int)) (.int .i64 (n : Int))).run Try.prog W = .ok (.slice (some ⟨W.heap.size, 0, none⟩) n n) (W.alloc (.cells M 5)) := fun W => by
    have h := run_make (P := Try.prog) W 61 5 i0 (.int .u8 0) Try.underlying61 hi hz0 .i64 .i64 (n : Int) (n : Int) (by omega) (by omega) (by rw [hz2]; omega) (by omega)
    rw [← hM] at h
    simpa using h
  have fin : ∀ (W : World) (H a b : Nat), W.heap.size = H → w.heap.size ≤ a → w.heap.size ≤ b → a ≠ b → w.heap.size ≤ W.heap.size → Row W a 5 M → Row W b 5 M → DiskM (W.alloc (.cells #[.bool false, .int .i64 0, .slice (some ⟨a, 0, none⟩) n n, .slice (some ⟨b, 0, none⟩) n n, .slice none 0 0] 66)) w.heap.size ⟨H, a, b, .slice none 0 0⟩ (newD n) := fun W H a b hH ha hb hab hW ra rb =>
    ⟨by rw [zeros_len]; exact Row.made_at _ _ _ hH, by rw [hml] at ra; exact ra.later _, by rw [hml] at rb; exact rb.later _, World.ownsRow_nil _ _ _ _, hab, by rw [← hH]; exact hW, ha, hb, newD_ok h2⟩
  have FIN := Lib.hid fin
  clear fin hM hml hi hz0 hz1 hz2
  go_enter Try.func13, Try.ntmps13
  go_upto_region 3 with (fail)
  go_region
  all_goals go_wp2
  all_goals go_ret2
  · have r0 : Row ((w.drew.alloc (.cells M 5)).alloc (.cells M 5)) w.heap.size 5 M := (Row.made_at _ _ _ rfl).later _
    have r1 : Row ((w.drew.alloc (.cells M 5)).alloc (.cells M 5)) (w.heap.size + 1) 5 M := Row.made_at _ _ _ (by simp)
    have b1 : Below w.heap.size w ((w.drew.alloc (.cells M 5)).alloc (.cells M 5)) := keep_alloc (keep_alloc (Below.refl _ w).drew _) _
    exact ⟨_, rfl, FIN.out _ (w.heap.size + 1 + 1) w.heap.size (w.heap.size + 1) (by simp) (Nat.le_refl _) (by omega) (by omega) b1.size r0 r1, keep_alloc b1 _⟩
  · have r0 : Row ((w.drew.alloc (.cells M 5)).alloc (.cells M 5)) w.heap.size 5 M := (Row.made_at _ _ _ rfl).later _
    have r1 : Row ((w.drew.alloc (.cells M 5)).alloc (.cells M 5)) (w.heap.size + 1) 5 M := Row.made_at _ _ _ (by simp)
    have b1 : Below w.heap.size w ((w.drew.alloc (.cells M 5)).alloc (.cells M 5)) := keep_alloc (keep_alloc (Below.refl _ w).drew _) _
    exact ⟨_, rfl, FIN.out _ (w.heap.size + 1 + 1) (w.heap.size + 1) w.heap.size (by simp) (by omega) (Nat.le_refl _) (by omega) b1.size r1 r0, keep_alloc b1 _⟩
end Go.Proofs.Ytghcffpcblficaa
