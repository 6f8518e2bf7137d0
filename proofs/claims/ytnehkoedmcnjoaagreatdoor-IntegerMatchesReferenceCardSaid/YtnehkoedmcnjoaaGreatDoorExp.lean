/- The exported functions: Add, Sub, Mul, Gcd. -/
import Derived.Test.YtnehkoedmcnjoaaGreatDoorNumE
namespace Go.Proofs.YtnehkoedmcnjoaaGreatDoor
open Go.RowKit

theorem dec_by_len {w : World} {B : Nat} {A : Option Addr} {L c n : Nat} (h : Nt w B A L c n) (m : L ≤ 900) : (str (Lib.decDigits n)).size ≤ 100000 := by
  have h1 := nt_lt h
  rw [show 10000 = 10 ^ 4 by decide, ← Nat.pow_mul] at h1
  have h2 := (decDigits_len_le n (4 * L)).2 (Nat.lt_of_lt_of_le h1 (Nat.pow_le_pow_right (by decide) (by omega)))
  have h3 : (str (Lib.decDigits n)).size = (Lib.decDigits n).length := rfl
  omega
theorem ntext_at (z : Int) (A : Option Addr) (L c : Nat) (m : L ≤ 900) (w : World) (h : Nt w w.heap.size A L c z.natAbs) (ht : Tab w) :
    Calls Tryz.prog 39 #[.agg #[.bool (decide (z < 0)), .slice A L c]] w fun e w' => e = .returned (.string (dec z)) ∧ Below w.heap.size w w' :=
  ntext_any z A L c m (dec_by_len h m) w h ht
theorem ndivide_any (x y : Int) (hy : y ≠ 0) (A1 A2 : Option Addr) (L1 c1 L2 c2 : Nat) (m1 : L1 ≤ 300) (m2 : L2 ≤ 300) (w : World) (h1 : Nt w w.heap.size A1 L1 c1 x.natAbs) (h2 : Nt w w.heap.size A2 L2 c2 y.natAbs) :
    Calls Tryz.prog 38 #[.agg #[.bool (decide (x < 0)), .slice A1 L1 c1], .agg #[.bool (decide (y < 0)), .slice A2 L2 c2]] w fun e w' => ∃ Aq Lq cq Ar Lr cr, e = .returned (.tuple #[.agg #[.bool (decide (x / y < 0)), .slice Aq Lq cq], .agg #[.bool (decide (x % y < 0)), .slice Ar Lr cr]]) ∧
      Nt w' w'.heap.size Aq Lq cq (x / y).natAbs ∧ Nt w' w'.heap.size Ar Lr cr (x % y).natAbs ∧ Below w.heap.size w w' := by
  have hd := div_sized x y hy
  have hc := ndivide_sized (decide (x < 0)) (decide (y < 0)) A1 A2 L1 c1 x.natAbs L2 c2 y.natAbs m1 m2 (by omega) w h1 h2
  have e1 : decide (x / y < 0) = (!(decide (x < 0) == decide (y < 0)) && decide (0 < qN (decide (x < 0)) x.natAbs y.natAbs)) := by
    rw [hd.1]
    cases (!(decide (x < 0) == decide (y < 0)))
    · simp
    · simp
  have e2 : (x / y).natAbs = qN (decide (x < 0)) x.natAbs y.natAbs := by
    rw [hd.1]
    cases (!(decide (x < 0) == decide (y < 0))) <;> simp
  have e3 : (x % y).natAbs = rN (decide (x < 0)) x.natAbs y.natAbs := by rw [hd.2]; simp
  have e4 : decide (x % y < 0) = false := by rw [hd.2]; simp
  rw [e1, e2, e3, e4]
  exact hc
theorem sg_ok {s : ByteArray} (h : validB s.data.toList = true) : sgB s = decide (numB s < 0) := by rw [sgB, h]; rfl
theorem sz_ok {s : ByteArray} (h : validB s.data.toList = true) : szB s = (numB s).natAbs := by rw [szB, h]; rfl
theorem both_and {a b : ByteArray} (h : both a b = true) : validB a.data.toList = true ∧ validB b.data.toList = true := by simpa [both] using h
theorem sz_small (s : ByteArray) : szB s < 10000 ^ 50 := by
  cases h : validB s.data.toList
  · rw [szB, h]; exact Nat.pow_pos (by decide)
  · rw [sz_ok h]; exact num_small s h
theorem nt_300 {w : World} {B : Nat} {A : Option Addr} {L c : Nat} {s : ByteArray} (h : Nt w B A L c (szB s)) : L ≤ 300 := Nat.le_trans (nt_50 h (sz_small s)) (by decide)

set_option maxRecDepth 100000 in
set_option maxHeartbeats 8000000 in
theorem operate_plus (a b : ByteArray) (w : World) (ht : Tab w) :
    Calls Tryz.prog 28 #[.string a, .string b, .func (.func 29) #[] #[]] w fun e w' => e = .returned (.tuple #[.string (opT (fun x y => x + y) a b), .int .i64 (opE (fun x y => x + y) a b)]) ∧ Below w.heap.size w w' := by
  have cB := fun W => both_any a b W
  cases hv : both a b
  · have e1 : opT (fun x y => x + y) a b = ByteArray.empty := by rw [opT, hv]; rfl
    have e2 : opE (fun x y => x + y) a b = 30 := by rw [opE, hv]; rfl
    rw [e1, e2]
    rw [hv] at cB
    have CB := Lib.hid cB
    clear hv e1 e2 cB ht
    go_enter Tryz.func28, Tryz.ntmps28
    go_wp2_with (first
      | (go_at_call 36; (with_reducible refine (CB.out _).mono ?_); rintro e w1 ⟨A1, L1, c1, A2, L2, c2, rfl, hN1, hN2, hb1⟩)
      | fail)
    go_ret2
    exact ⟨rfl, below_step (below_step hb1 (below_alloc _ _)) (below_alloc _ _)⟩
  · obtain ⟨va, vb⟩ := both_and hv
    have e1 : opT (fun x y => x + y) a b = outT ((fun x y => x + y) (numB a) (numB b)) := by rw [opT, hv]; rfl
    have e2 : opE (fun x y => x + y) a b = outE ((fun x y => x + y) (numB a) (numB b)) := by rw [opE, hv]; rfl
    rw [e1, e2]
    rw [hv] at cB
    have hsa := sg_ok va
    have hsb := sg_ok vb
    have hna := sz_ok va
    have hnb := sz_ok vb
    obtain ⟨Z, hZ⟩ : ∃ Z, Z = (fun x y => x + y) (numB a) (numB b) := ⟨_, rfl⟩
    obtain ⟨sz, hsz⟩ : ∃ sz, sz = decide (Z < 0) := ⟨_, rfl⟩
    have zbound : Z.natAbs < 10000 ^ 100 := by
      have h1 := num_small a va
      have h2 := num_small b vb
      have h3 : (10000 : Nat) ^ 100 = 10000 ^ 50 * 10000 ^ 50 := by rw [← Nat.pow_add]
      have h4 : 2 ≤ (10000 : Nat) ^ 50 := Nat.le_trans (by decide) (Nat.pow_le_pow_right (n := 10000) (by decide) (show 1 ≤ 50 by decide))
      have h5 := Nat.mul_le_mul_left ((10000 : Nat) ^ 50) h4
      rw [← h3] at h5
      have h6 : Z.natAbs ≤ (numB a).natAbs + (numB b).natAbs := by rw [hZ]; show (numB a + numB b).natAbs ≤ _; omega
      omega
    have cO := fun (A1 A2 : Option Addr) (L1 c1 L2 c2 : Nat) W (h1 : Nt W W.heap.size A1 L1 c1 (szB a)) (h2 : Nt W W.heap.size A2 L2 c2 (szB b)) => by
      rw [hna] at h1
      rw [hnb] at h2
      have hc := nplus_any (numB a) (numB b) A1 A2 L1 c1 L2 c2 (nt_300 (s := a) (by rw [hna]; exact h1)) (nt_300 (s := b) (by rw [hnb]; exact h2)) W h1 h2
      have hZ2 : Z = numB a + numB b := hZ
      rw [← hZ2, ← hsz, ← hsa, ← hsb] at hc
      exact hc.mono (fun e w' h => by
        obtain ⟨A, L, c, h1, h2, h3⟩ := h
        exact (⟨A, L, c, h1, h2, Nat.le_trans (nt_50 h2 zbound) (by decide), h3⟩ : ∃ A L c, e = .returned (.agg #[.bool sz, .slice A L c]) ∧ Nt w' w'.heap.size A L c Z.natAbs ∧ L ≤ 900 ∧ Below W.heap.size W w'))
    have cT := fun (A : Option Addr) (L c : Nat) (m : L ≤ 900) W (h : Nt W W.heap.size A L c Z.natAbs) (ht : Tab W) => ntext_at Z A L c m W h ht
    rw [← hsz] at cT
    have cV := fun W => valid_any (dec Z) W
    rw [valid_dec] at cV
    rw [← hZ]
    have hbz := zbound
    have e3 : outT Z = if fits Z then dec Z else ByteArray.empty := rfl
    have e4 : outE Z = if fits Z then 0 else 30 := rfl
    obtain ⟨X, hX⟩ : ∃ X, X = dec Z := ⟨_, rfl⟩
    rw [← hX] at cT cV e3
    have CB := Lib.hid cB; have CO := Lib.hid cO; have CT := Lib.hid cT; have CV := Lib.hid cV; have HT := Lib.hid ht; have E3 := Lib.hid e3; have E4 := Lib.hid e4
    clear hv e1 e2 cB cO cT cV va vb hsa hsb hna hnb hsz hX e3 e4 ht hZ hbz
    cases hf : fits Z
    · rw [hf] at CV E3 E4
      have e3 := E3.out
      have e4 := E4.out
      rw [if_neg (by decide)] at e3 e4
      rw [e3, e4]
      clear e3 e4
      go_enter Tryz.func28, Tryz.ntmps28
      go_wp2_with (first
        | (go_at_call 36; (with_reducible refine (CB.out _).mono ?_); rintro e w1 ⟨A1, L1, c1, A2, L2, c2, rfl, hN1, hN2, hb1⟩; have hb1a := below_step (below_step hb1 (below_alloc w1 (.cells #[.bool (sgB a), .slice A1 L1 c1] 47))) (below_alloc _ (.cells #[.bool (sgB b), .slice A2 L2 c2] 47)))
        | (go_at_call 29; (with_reducible refine (CO.out _ _ _ _ _ _ _ ((hN1.kept (below_alloc _ _)).kept (below_alloc _ _)) ((hN2.kept (below_alloc _ _)).kept (below_alloc _ _))).mono ?_); rintro e w2 ⟨A3, L3, c3, rfl, hN3, hL3, hb2⟩; have hb2a := below_step hb1a hb2)
        | (go_at_call 39; (with_reducible refine (CT.out _ _ _ hL3 _ hN3 (HT.out.below hb2a)).mono ?_); rintro e w3 ⟨rfl, hb3⟩; have hb3a := below_step hb2a hb3)
        | (go_at_call 21; (with_reducible refine (CV.out _).mono ?_); rintro e w4 ⟨rfl, hb4⟩; have hb4a := below_step hb3a hb4)
        | fail)
      go_ret2
      exact ⟨rfl, hb4a⟩
    · rw [hf] at CV E3 E4
      have e3 := E3.out
      have e4 := E4.out
      rw [if_pos rfl] at e3 e4
      rw [e3, e4]
      clear e3 e4
      go_enter Tryz.func28, Tryz.ntmps28
      go_wp2_with (first
        | (go_at_call 36; (with_reducible refine (CB.out _).mono ?_); rintro e w1 ⟨A1, L1, c1, A2, L2, c2, rfl, hN1, hN2, hb1⟩; have hb1a := below_step (below_step hb1 (below_alloc w1 (.cells #[.bool (sgB a), .slice A1 L1 c1] 47))) (below_alloc _ (.cells #[.bool (sgB b), .slice A2 L2 c2] 47)))
        | (go_at_call 29; (with_reducible refine (CO.out _ _ _ _ _ _ _ ((hN1.kept (below_alloc _ _)).kept (below_alloc _ _)) ((hN2.kept (below_alloc _ _)).kept (below_alloc _ _))).mono ?_); rintro e w2 ⟨A3, L3, c3, rfl, hN3, hL3, hb2⟩; have hb2a := below_step hb1a hb2)
        | (go_at_call 39; (with_reducible refine (CT.out _ _ _ hL3 _ hN3 (HT.out.below hb2a)).mono ?_); rintro e w3 ⟨rfl, hb3⟩; have hb3a := below_step hb2a hb3)
        | (go_at_call 21; (with_reducible refine (CV.out _).mono ?_); rintro e w4 ⟨rfl, hb4⟩; have hb4a := below_step hb3a hb4)
        | fail)
      go_ret2
      exact ⟨rfl, hb4a⟩

set_option maxRecDepth 100000 in
set_option maxHeartbeats 4000000 in
theorem add_any (a b : ByteArray) (w : World) (ht : Tab w) :
    Calls Tryz.prog 7 #[.string a, .string b] w fun e w' => e = .returned (.tuple #[.string (opT (fun x y => x + y) a b), .int .i64 (opE (fun x y => x + y) a b)]) ∧ Below w.heap.size w w' := by
  have cO := operate_plus a b w ht
  obtain ⟨T, hT⟩ : ∃ T, T = opT (fun x y => x + y) a b := ⟨_, rfl⟩
  obtain ⟨E, hE⟩ : ∃ E, E = opE (fun x y => x + y) a b := ⟨_, rfl⟩
  rw [← hT, ← hE] at cO ⊢
  clear hT hE ht
  go_enter Tryz.func7, Tryz.ntmps7
  go_wp2_with (first | (go_at_call 28; (with_reducible refine cO.mono ?_); rintro e w1 ⟨rfl, hb1⟩) | fail)
  go_ret2
  exact ⟨rfl, hb1⟩

set_option maxRecDepth 100000 in
set_option maxHeartbeats 8000000 in
theorem operate_minus (a b : ByteArray) (w : World) (ht : Tab w) :
    Calls Tryz.prog 28 #[.string a, .string b, .func (.func 32) #[] #[]] w fun e w' => e = .returned (.tuple #[.string (opT (fun x y => x - y) a b), .int .i64 (opE (fun x y => x - y) a b)]) ∧ Below w.heap.size w w' := by
  have cB := fun W => both_any a b W
  cases hv : both a b
  · have e1 : opT (fun x y => x - y) a b = ByteArray.empty := by rw [opT, hv]; rfl
    have e2 : opE (fun x y => x - y) a b = 30 := by rw [opE, hv]; rfl
    rw [e1, e2]
    rw [hv] at cB
    have CB := Lib.hid cB
    clear hv e1 e2 cB ht
    go_enter Tryz.func28, Tryz.ntmps28
    go_wp2_with (first
      | (go_at_call 36; (with_reducible refine (CB.out _).mono ?_); rintro e w1 ⟨A1, L1, c1, A2, L2, c2, rfl, hN1, hN2, hb1⟩)
      | fail)
    go_ret2
    exact ⟨rfl, below_step (below_step hb1 (below_alloc _ _)) (below_alloc _ _)⟩
  · obtain ⟨va, vb⟩ := both_and hv
    have e1 : opT (fun x y => x - y) a b = outT ((fun x y => x - y) (numB a) (numB b)) := by rw [opT, hv]; rfl
    have e2 : opE (fun x y => x - y) a b = outE ((fun x y => x - y) (numB a) (numB b)) := by rw [opE, hv]; rfl
    rw [e1, e2]
    rw [hv] at cB
    have hsa := sg_ok va
    have hsb := sg_ok vb
    have hna := sz_ok va
    have hnb := sz_ok vb
    obtain ⟨Z, hZ⟩ : ∃ Z, Z = (fun x y => x - y) (numB a) (numB b) := ⟨_, rfl⟩
    obtain ⟨sz, hsz⟩ : ∃ sz, sz = decide (Z < 0) := ⟨_, rfl⟩
    have zbound : Z.natAbs < 10000 ^ 100 := by
      have h1 := num_small a va
      have h2 := num_small b vb
      have h3 : (10000 : Nat) ^ 100 = 10000 ^ 50 * 10000 ^ 50 := by rw [← Nat.pow_add]
      have h4 : 2 ≤ (10000 : Nat) ^ 50 := Nat.le_trans (by decide) (Nat.pow_le_pow_right (n := 10000) (by decide) (show 1 ≤ 50 by decide))
      have h5 := Nat.mul_le_mul_left ((10000 : Nat) ^ 50) h4
      rw [← h3] at h5
      have h6 : Z.natAbs ≤ (numB a).natAbs + (numB b).natAbs := by rw [hZ]; show (numB a - numB b).natAbs ≤ _; omega
      omega
    have cO := fun (A1 A2 : Option Addr) (L1 c1 L2 c2 : Nat) W (h1 : Nt W W.heap.size A1 L1 c1 (szB a)) (h2 : Nt W W.heap.size A2 L2 c2 (szB b)) => by
      rw [hna] at h1
      rw [hnb] at h2
      have hc := nminus_any (numB a) (numB b) A1 A2 L1 c1 L2 c2 (nt_300 (s := a) (by rw [hna]; exact h1)) (nt_300 (s := b) (by rw [hnb]; exact h2)) W h1 h2
      have hZ2 : Z = numB a - numB b := hZ
      rw [← hZ2, ← hsz, ← hsa, ← hsb] at hc
      exact hc.mono (fun e w' h => by
        obtain ⟨A, L, c, h1, h2, h3⟩ := h
        exact (⟨A, L, c, h1, h2, Nat.le_trans (nt_50 h2 zbound) (by decide), h3⟩ : ∃ A L c, e = .returned (.agg #[.bool sz, .slice A L c]) ∧ Nt w' w'.heap.size A L c Z.natAbs ∧ L ≤ 900 ∧ Below W.heap.size W w'))
    have cT := fun (A : Option Addr) (L c : Nat) (m : L ≤ 900) W (h : Nt W W.heap.size A L c Z.natAbs) (ht : Tab W) => ntext_at Z A L c m W h ht
    rw [← hsz] at cT
    have cV := fun W => valid_any (dec Z) W
    rw [valid_dec] at cV
    rw [← hZ]
    have hbz := zbound
    have e3 : outT Z = if fits Z then dec Z else ByteArray.empty := rfl
    have e4 : outE Z = if fits Z then 0 else 30 := rfl
    obtain ⟨X, hX⟩ : ∃ X, X = dec Z := ⟨_, rfl⟩
    rw [← hX] at cT cV e3
    have CB := Lib.hid cB; have CO := Lib.hid cO; have CT := Lib.hid cT; have CV := Lib.hid cV; have HT := Lib.hid ht; have E3 := Lib.hid e3; have E4 := Lib.hid e4
    clear hv e1 e2 cB cO cT cV va vb hsa hsb hna hnb hsz hX e3 e4 ht hZ hbz
    cases hf : fits Z
    · rw [hf] at CV E3 E4
      have e3 := E3.out
      have e4 := E4.out
      rw [if_neg (by decide)] at e3 e4
      rw [e3, e4]
      clear e3 e4
      go_enter Tryz.func28, Tryz.ntmps28
      go_wp2_with (first
        | (go_at_call 36; (with_reducible refine (CB.out _).mono ?_); rintro e w1 ⟨A1, L1, c1, A2, L2, c2, rfl, hN1, hN2, hb1⟩; have hb1a := below_step (below_step hb1 (below_alloc w1 (.cells #[.bool (sgB a), .slice A1 L1 c1] 47))) (below_alloc _ (.cells #[.bool (sgB b), .slice A2 L2 c2] 47)))
        | (go_at_call 32; (with_reducible refine (CO.out _ _ _ _ _ _ _ ((hN1.kept (below_alloc _ _)).kept (below_alloc _ _)) ((hN2.kept (below_alloc _ _)).kept (below_alloc _ _))).mono ?_); rintro e w2 ⟨A3, L3, c3, rfl, hN3, hL3, hb2⟩; have hb2a := below_step hb1a hb2)
        | (go_at_call 39; (with_reducible refine (CT.out _ _ _ hL3 _ hN3 (HT.out.below hb2a)).mono ?_); rintro e w3 ⟨rfl, hb3⟩; have hb3a := below_step hb2a hb3)
        | (go_at_call 21; (with_reducible refine (CV.out _).mono ?_); rintro e w4 ⟨rfl, hb4⟩; have hb4a := below_step hb3a hb4)
        | fail)
      go_ret2
      exact ⟨rfl, hb4a⟩
    · rw [hf] at CV E3 E4
      have e3 := E3.out
      have e4 := E4.out
      rw [if_pos rfl] at e3 e4
      rw [e3, e4]
      clear e3 e4
      go_enter Tryz.func28, Tryz.ntmps28
      go_wp2_with (first
        | (go_at_call 36; (with_reducible refine (CB.out _).mono ?_); rintro e w1 ⟨A1, L1, c1, A2, L2, c2, rfl, hN1, hN2, hb1⟩; have hb1a := below_step (below_step hb1 (below_alloc w1 (.cells #[.bool (sgB a), .slice A1 L1 c1] 47))) (below_alloc _ (.cells #[.bool (sgB b), .slice A2 L2 c2] 47)))
        | (go_at_call 32; (with_reducible refine (CO.out _ _ _ _ _ _ _ ((hN1.kept (below_alloc _ _)).kept (below_alloc _ _)) ((hN2.kept (below_alloc _ _)).kept (below_alloc _ _))).mono ?_); rintro e w2 ⟨A3, L3, c3, rfl, hN3, hL3, hb2⟩; have hb2a := below_step hb1a hb2)
        | (go_at_call 39; (with_reducible refine (CT.out _ _ _ hL3 _ hN3 (HT.out.below hb2a)).mono ?_); rintro e w3 ⟨rfl, hb3⟩; have hb3a := below_step hb2a hb3)
        | (go_at_call 21; (with_reducible refine (CV.out _).mono ?_); rintro e w4 ⟨rfl, hb4⟩; have hb4a := below_step hb3a hb4)
        | fail)
      go_ret2
      exact ⟨rfl, hb4a⟩

set_option maxRecDepth 100000 in
set_option maxHeartbeats 4000000 in
theorem sub_any (a b : ByteArray) (w : World) (ht : Tab w) :
    Calls Tryz.prog 9 #[.string a, .string b] w fun e w' => e = .returned (.tuple #[.string (opT (fun x y => x - y) a b), .int .i64 (opE (fun x y => x - y) a b)]) ∧ Below w.heap.size w w' := by
  have cO := operate_minus a b w ht
  obtain ⟨T, hT⟩ : ∃ T, T = opT (fun x y => x - y) a b := ⟨_, rfl⟩
  obtain ⟨E, hE⟩ : ∃ E, E = opE (fun x y => x - y) a b := ⟨_, rfl⟩
  rw [← hT, ← hE] at cO ⊢
  clear hT hE ht
  go_enter Tryz.func9, Tryz.ntmps9
  go_wp2_with (first | (go_at_call 28; (with_reducible refine cO.mono ?_); rintro e w1 ⟨rfl, hb1⟩) | fail)
  go_ret2
  exact ⟨rfl, hb1⟩

set_option maxRecDepth 100000 in
set_option maxHeartbeats 8000000 in
theorem operate_times (a b : ByteArray) (w : World) (ht : Tab w) :
    Calls Tryz.prog 28 #[.string a, .string b, .func (.func 33) #[] #[]] w fun e w' => e = .returned (.tuple #[.string (opT (fun x y => x * y) a b), .int .i64 (opE (fun x y => x * y) a b)]) ∧ Below w.heap.size w w' := by
  have cB := fun W => both_any a b W
  cases hv : both a b
  · have e1 : opT (fun x y => x * y) a b = ByteArray.empty := by rw [opT, hv]; rfl
    have e2 : opE (fun x y => x * y) a b = 30 := by rw [opE, hv]; rfl
    rw [e1, e2]
    rw [hv] at cB
    have CB := Lib.hid cB
    clear hv e1 e2 cB ht
    go_enter Tryz.func28, Tryz.ntmps28
    go_wp2_with (first
      | (go_at_call 36; (with_reducible refine (CB.out _).mono ?_); rintro e w1 ⟨A1, L1, c1, A2, L2, c2, rfl, hN1, hN2, hb1⟩)
      | fail)
    go_ret2
    exact ⟨rfl, below_step (below_step hb1 (below_alloc _ _)) (below_alloc _ _)⟩
  · obtain ⟨va, vb⟩ := both_and hv
    have e1 : opT (fun x y => x * y) a b = outT ((fun x y => x * y) (numB a) (numB b)) := by rw [opT, hv]; rfl
    have e2 : opE (fun x y => x * y) a b = outE ((fun x y => x * y) (numB a) (numB b)) := by rw [opE, hv]; rfl
    rw [e1, e2]
    rw [hv] at cB
    have hsa := sg_ok va
    have hsb := sg_ok vb
    have hna := sz_ok va
    have hnb := sz_ok vb
    obtain ⟨Z, hZ⟩ : ∃ Z, Z = (fun x y => x * y) (numB a) (numB b) := ⟨_, rfl⟩
    obtain ⟨sz, hsz⟩ : ∃ sz, sz = decide (Z < 0) := ⟨_, rfl⟩
    have zbound : Z.natAbs < 10000 ^ 100 := by
      have h1 := num_small a va
      have h2 := num_small b vb
      have h3 : (10000 : Nat) ^ 100 = 10000 ^ 50 * 10000 ^ 50 := by rw [← Nat.pow_add]
      rw [hZ, h3]
      show (numB a * numB b).natAbs < _
      rw [Int.natAbs_mul]
      exact Nat.mul_lt_mul'' h1 h2
    have cO := fun (A1 A2 : Option Addr) (L1 c1 L2 c2 : Nat) W (h1 : Nt W W.heap.size A1 L1 c1 (szB a)) (h2 : Nt W W.heap.size A2 L2 c2 (szB b)) => by
      rw [hna] at h1
      rw [hnb] at h2
      have hc := ntimes_any (numB a) (numB b) A1 A2 L1 c1 L2 c2 (nt_300 (s := a) (by rw [hna]; exact h1)) (nt_300 (s := b) (by rw [hnb]; exact h2)) W h1 h2
      have hZ2 : Z = numB a * numB b := hZ
      rw [← hZ2, ← hsz, ← hsa, ← hsb] at hc
      exact hc.mono (fun e w' h => by
        obtain ⟨A, L, c, h1, h2, h3⟩ := h
        exact (⟨A, L, c, h1, h2, Nat.le_trans (nt_50 h2 zbound) (by decide), h3⟩ : ∃ A L c, e = .returned (.agg #[.bool sz, .slice A L c]) ∧ Nt w' w'.heap.size A L c Z.natAbs ∧ L ≤ 900 ∧ Below W.heap.size W w'))
    have cT := fun (A : Option Addr) (L c : Nat) (m : L ≤ 900) W (h : Nt W W.heap.size A L c Z.natAbs) (ht : Tab W) => ntext_at Z A L c m W h ht
    rw [← hsz] at cT
    have cV := fun W => valid_any (dec Z) W
    rw [valid_dec] at cV
    rw [← hZ]
    have hbz := zbound
    have e3 : outT Z = if fits Z then dec Z else ByteArray.empty := rfl
    have e4 : outE Z = if fits Z then 0 else 30 := rfl
    obtain ⟨X, hX⟩ : ∃ X, X = dec Z := ⟨_, rfl⟩
    rw [← hX] at cT cV e3
    have CB := Lib.hid cB; have CO := Lib.hid cO; have CT := Lib.hid cT; have CV := Lib.hid cV; have HT := Lib.hid ht; have E3 := Lib.hid e3; have E4 := Lib.hid e4
    clear hv e1 e2 cB cO cT cV va vb hsa hsb hna hnb hsz hX e3 e4 ht hZ hbz
    cases hf : fits Z
    · rw [hf] at CV E3 E4
      have e3 := E3.out
      have e4 := E4.out
      rw [if_neg (by decide)] at e3 e4
      rw [e3, e4]
      clear e3 e4
      go_enter Tryz.func28, Tryz.ntmps28
      go_wp2_with (first
        | (go_at_call 36; (with_reducible refine (CB.out _).mono ?_); rintro e w1 ⟨A1, L1, c1, A2, L2, c2, rfl, hN1, hN2, hb1⟩; have hb1a := below_step (below_step hb1 (below_alloc w1 (.cells #[.bool (sgB a), .slice A1 L1 c1] 47))) (below_alloc _ (.cells #[.bool (sgB b), .slice A2 L2 c2] 47)))
        | (go_at_call 33; (with_reducible refine (CO.out _ _ _ _ _ _ _ ((hN1.kept (below_alloc _ _)).kept (below_alloc _ _)) ((hN2.kept (below_alloc _ _)).kept (below_alloc _ _))).mono ?_); rintro e w2 ⟨A3, L3, c3, rfl, hN3, hL3, hb2⟩; have hb2a := below_step hb1a hb2)
        | (go_at_call 39; (with_reducible refine (CT.out _ _ _ hL3 _ hN3 (HT.out.below hb2a)).mono ?_); rintro e w3 ⟨rfl, hb3⟩; have hb3a := below_step hb2a hb3)
        | (go_at_call 21; (with_reducible refine (CV.out _).mono ?_); rintro e w4 ⟨rfl, hb4⟩; have hb4a := below_step hb3a hb4)
        | fail)
      go_ret2
      exact ⟨rfl, hb4a⟩
    · rw [hf] at CV E3 E4
      have e3 := E3.out
      have e4 := E4.out
      rw [if_pos rfl] at e3 e4
      rw [e3, e4]
      clear e3 e4
      go_enter Tryz.func28, Tryz.ntmps28
      go_wp2_with (first
        | (go_at_call 36; (with_reducible refine (CB.out _).mono ?_); rintro e w1 ⟨A1, L1, c1, A2, L2, c2, rfl, hN1, hN2, hb1⟩; have hb1a := below_step (below_step hb1 (below_alloc w1 (.cells #[.bool (sgB a), .slice A1 L1 c1] 47))) (below_alloc _ (.cells #[.bool (sgB b), .slice A2 L2 c2] 47)))
        | (go_at_call 33; (with_reducible refine (CO.out _ _ _ _ _ _ _ ((hN1.kept (below_alloc _ _)).kept (below_alloc _ _)) ((hN2.kept (below_alloc _ _)).kept (below_alloc _ _))).mono ?_); rintro e w2 ⟨A3, L3, c3, rfl, hN3, hL3, hb2⟩; have hb2a := below_step hb1a hb2)
        | (go_at_call 39; (with_reducible refine (CT.out _ _ _ hL3 _ hN3 (HT.out.below hb2a)).mono ?_); rintro e w3 ⟨rfl, hb3⟩; have hb3a := below_step hb2a hb3)
        | (go_at_call 21; (with_reducible refine (CV.out _).mono ?_); rintro e w4 ⟨rfl, hb4⟩; have hb4a := below_step hb3a hb4)
        | fail)
      go_ret2
      exact ⟨rfl, hb4a⟩

set_option maxRecDepth 100000 in
set_option maxHeartbeats 4000000 in
theorem mul_any (a b : ByteArray) (w : World) (ht : Tab w) :
    Calls Tryz.prog 11 #[.string a, .string b] w fun e w' => e = .returned (.tuple #[.string (opT (fun x y => x * y) a b), .int .i64 (opE (fun x y => x * y) a b)]) ∧ Below w.heap.size w w' := by
  have cO := operate_times a b w ht
  obtain ⟨T, hT⟩ : ∃ T, T = opT (fun x y => x * y) a b := ⟨_, rfl⟩
  obtain ⟨E, hE⟩ : ∃ E, E = opE (fun x y => x * y) a b := ⟨_, rfl⟩
  rw [← hT, ← hE] at cO ⊢
  clear hT hE ht
  go_enter Tryz.func11, Tryz.ntmps11
  go_wp2_with (first | (go_at_call 28; (with_reducible refine cO.mono ?_); rintro e w1 ⟨rfl, hb1⟩) | fail)
  go_ret2
  exact ⟨rfl, hb1⟩

set_option maxRecDepth 100000 in
set_option maxHeartbeats 8000000 in
theorem operate_gcd (a b : ByteArray) (w : World) (ht : Tab w) :
    Calls Tryz.prog 28 #[.string a, .string b, .func (.func 43) #[] #[]] w fun e w' => e = .returned (.tuple #[.string (opT (fun x y => (Int.gcd x y : Int)) a b), .int .i64 (opE (fun x y => (Int.gcd x y : Int)) a b)]) ∧ Below w.heap.size w w' := by
  have cB := fun W => both_any a b W
  cases hv : both a b
  · have e1 : opT (fun x y => (Int.gcd x y : Int)) a b = ByteArray.empty := by rw [opT, hv]; rfl
    have e2 : opE (fun x y => (Int.gcd x y : Int)) a b = 30 := by rw [opE, hv]; rfl
    rw [e1, e2]
    rw [hv] at cB
    have CB := Lib.hid cB
    clear hv e1 e2 cB ht
    go_enter Tryz.func28, Tryz.ntmps28
    go_wp2_with (first
      | (go_at_call 36; (with_reducible refine (CB.out _).mono ?_); rintro e w1 ⟨A1, L1, c1, A2, L2, c2, rfl, hN1, hN2, hb1⟩)
      | fail)
    go_ret2
    exact ⟨rfl, below_step (below_step hb1 (below_alloc _ _)) (below_alloc _ _)⟩
  · obtain ⟨va, vb⟩ := both_and hv
    have e1 : opT (fun x y => (Int.gcd x y : Int)) a b = outT ((fun x y => (Int.gcd x y : Int)) (numB a) (numB b)) := by rw [opT, hv]; rfl
    have e2 : opE (fun x y => (Int.gcd x y : Int)) a b = outE ((fun x y => (Int.gcd x y : Int)) (numB a) (numB b)) := by rw [opE, hv]; rfl
    rw [e1, e2]
    rw [hv] at cB
    have hsa := sg_ok va
    have hsb := sg_ok vb
    have hna := sz_ok va
    have hnb := sz_ok vb
    obtain ⟨Z, hZ⟩ : ∃ Z, Z = (fun x y => (Int.gcd x y : Int)) (numB a) (numB b) := ⟨_, rfl⟩
    obtain ⟨sz, hsz⟩ : ∃ sz, sz = decide (Z < 0) := ⟨_, rfl⟩
    have zbound : Z.natAbs < 10000 ^ 100 := by
      have h1 := num_small a va
      have h2 := num_small b vb
      have h3 : Z.natAbs = Nat.gcd (numB a).natAbs (numB b).natAbs := by rw [hZ]; rfl
      rw [h3]
      refine Nat.lt_of_lt_of_le ?_ (Nat.pow_le_pow_right (n := 10000) (by decide) (show 50 ≤ 100 by decide))
      rcases Nat.eq_zero_or_pos (numB a).natAbs with h0 | h0
      · rw [h0, Nat.gcd_zero_left]; exact h2
      · exact Nat.lt_of_le_of_lt (Nat.gcd_le_left _ h0) h1
    have cO := fun (A1 A2 : Option Addr) (L1 c1 L2 c2 : Nat) W (h1 : Nt W W.heap.size A1 L1 c1 (szB a)) (h2 : Nt W W.heap.size A2 L2 c2 (szB b)) => by
      have hc := ngcd_any (sgB a) (sgB b) A1 A2 L1 c1 (szB a) L2 c2 (szB b) (nt_300 h1) (nt_300 h2) W h1 h2
      have e5 : sz = false := by rw [hsz, hZ]; simp
      have e6 : Z.natAbs = Nat.gcd (szB a) (szB b) := by rw [hZ, hna, hnb]; rfl
      rw [← e5, ← e6] at hc
      exact hc.mono (fun e w' h => by
        obtain ⟨A, L, c, h1, h2, h3⟩ := h
        exact (⟨A, L, c, h1, h2, Nat.le_trans (nt_50 h2 zbound) (by decide), h3⟩ : ∃ A L c, e = .returned (.agg #[.bool sz, .slice A L c]) ∧ Nt w' w'.heap.size A L c Z.natAbs ∧ L ≤ 900 ∧ Below W.heap.size W w'))
    have cT := fun (A : Option Addr) (L c : Nat) (m : L ≤ 900) W (h : Nt W W.heap.size A L c Z.natAbs) (ht : Tab W) => ntext_at Z A L c m W h ht
    rw [← hsz] at cT
    have cV := fun W => valid_any (dec Z) W
    rw [valid_dec] at cV
    rw [← hZ]
    have hbz := zbound
    have e3 : outT Z = if fits Z then dec Z else ByteArray.empty := rfl
    have e4 : outE Z = if fits Z then 0 else 30 := rfl
    obtain ⟨X, hX⟩ : ∃ X, X = dec Z := ⟨_, rfl⟩
    rw [← hX] at cT cV e3
    have CB := Lib.hid cB; have CO := Lib.hid cO; have CT := Lib.hid cT; have CV := Lib.hid cV; have HT := Lib.hid ht; have E3 := Lib.hid e3; have E4 := Lib.hid e4
    clear hv e1 e2 cB cO cT cV va vb hsa hsb hna hnb hsz hX e3 e4 ht hZ hbz
    cases hf : fits Z
    · rw [hf] at CV E3 E4
      have e3 := E3.out
      have e4 := E4.out
      rw [if_neg (by decide)] at e3 e4
      rw [e3, e4]
      clear e3 e4
      go_enter Tryz.func28, Tryz.ntmps28
      go_wp2_with (first
        | (go_at_call 36; (with_reducible refine (CB.out _).mono ?_); rintro e w1 ⟨A1, L1, c1, A2, L2, c2, rfl, hN1, hN2, hb1⟩; have hb1a := below_step (below_step hb1 (below_alloc w1 (.cells #[.bool (sgB a), .slice A1 L1 c1] 47))) (below_alloc _ (.cells #[.bool (sgB b), .slice A2 L2 c2] 47)))
        | (go_at_call 43; (with_reducible refine (CO.out _ _ _ _ _ _ _ ((hN1.kept (below_alloc _ _)).kept (below_alloc _ _)) ((hN2.kept (below_alloc _ _)).kept (below_alloc _ _))).mono ?_); rintro e w2 ⟨A3, L3, c3, rfl, hN3, hL3, hb2⟩; have hb2a := below_step hb1a hb2)
        | (go_at_call 39; (with_reducible refine (CT.out _ _ _ hL3 _ hN3 (HT.out.below hb2a)).mono ?_); rintro e w3 ⟨rfl, hb3⟩; have hb3a := below_step hb2a hb3)
        | (go_at_call 21; (with_reducible refine (CV.out _).mono ?_); rintro e w4 ⟨rfl, hb4⟩; have hb4a := below_step hb3a hb4)
        | fail)
      go_ret2
      exact ⟨rfl, hb4a⟩
    · rw [hf] at CV E3 E4
      have e3 := E3.out
      have e4 := E4.out
      rw [if_pos rfl] at e3 e4
      rw [e3, e4]
      clear e3 e4
      go_enter Tryz.func28, Tryz.ntmps28
      go_wp2_with (first
        | (go_at_call 36; (with_reducible refine (CB.out _).mono ?_); rintro e w1 ⟨A1, L1, c1, A2, L2, c2, rfl, hN1, hN2, hb1⟩; have hb1a := below_step (below_step hb1 (below_alloc w1 (.cells #[.bool (sgB a), .slice A1 L1 c1] 47))) (below_alloc _ (.cells #[.bool (sgB b), .slice A2 L2 c2] 47)))
        | (go_at_call 43; (with_reducible refine (CO.out _ _ _ _ _ _ _ ((hN1.kept (below_alloc _ _)).kept (below_alloc _ _)) ((hN2.kept (below_alloc _ _)).kept (below_alloc _ _))).mono ?_); rintro e w2 ⟨A3, L3, c3, rfl, hN3, hL3, hb2⟩; have hb2a := below_step hb1a hb2)
        | (go_at_call 39; (with_reducible refine (CT.out _ _ _ hL3 _ hN3 (HT.out.below hb2a)).mono ?_); rintro e w3 ⟨rfl, hb3⟩; have hb3a := below_step hb2a hb3)
        | (go_at_call 21; (with_reducible refine (CV.out _).mono ?_); rintro e w4 ⟨rfl, hb4⟩; have hb4a := below_step hb3a hb4)
        | fail)
      go_ret2
      exact ⟨rfl, hb4a⟩

set_option maxRecDepth 100000 in
set_option maxHeartbeats 4000000 in
theorem gcd_any (a b : ByteArray) (w : World) (ht : Tab w) :
    Calls Tryz.prog 15 #[.string a, .string b] w fun e w' => e = .returned (.tuple #[.string (opT (fun x y => (Int.gcd x y : Int)) a b), .int .i64 (opE (fun x y => (Int.gcd x y : Int)) a b)]) ∧ Below w.heap.size w w' := by
  have cO := operate_gcd a b w ht
  obtain ⟨T, hT⟩ : ∃ T, T = opT (fun x y => (Int.gcd x y : Int)) a b := ⟨_, rfl⟩
  obtain ⟨E, hE⟩ : ∃ E, E = opE (fun x y => (Int.gcd x y : Int)) a b := ⟨_, rfl⟩
  rw [← hT, ← hE] at cO ⊢
  clear hT hE ht
  go_enter Tryz.func15, Tryz.ntmps15
  go_wp2_with (first | (go_at_call 28; (with_reducible refine cO.mono ?_); rintro e w1 ⟨rfl, hb1⟩) | fail)
  go_ret2
  exact ⟨rfl, hb1⟩
end Go.Proofs.YtnehkoedmcnjoaaGreatDoor
