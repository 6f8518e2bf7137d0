/- The exported functions: Add, Sub, Mul, Gcd. The exported functions: Compare, Div, Root, FromInt, ToInt. -/
import Derived.Test.YtgpncnnlhhmjaaaGreatDoorNum
namespace Go.Proofs.YtgpncnnlhhmjaaaGreatDoor
open Go.RowKit

theorem dec_by_len {w : World} {B : Nat} {A : Option Addr} {L c n : Nat} (h : Nt w B A L c n) (m : L ≤ 900) : (str (Lib.decDigits n)).size ≤ 100000 := by
  have h1 := nt_lt h
  rw [show 10000 = 10 ^ 4 by decide, ← Nat.pow_mul] at h1
  have h2 := (decDigits_len_le n (4 * L)).2 (Nat.lt_of_lt_of_le h1 (Nat.pow_le_pow_right (by decide) (by omega)))
  have h3 : (str (Lib.decDigits n)).size = (Lib.decDigits n).length := rfl
  omega
theorem ntext_at (z : Int) (A : Option Addr) (L c : Nat) (m : L ≤ 900) (w : World) (h : Nt w w.heap.size A L c z.natAbs) (ht : Tab w) :
    Calls Tryz.prog 76 #[.agg #[.bool (decide (z < 0)), .slice A L c]] w fun e w' => e = .returned (.string (dec z)) ∧ Below w.heap.size w w' :=
  ntext_any z A L c m (dec_by_len h m) w h ht
theorem ndivide_any (x y : Int) (hy : y ≠ 0) (A1 A2 : Option Addr) (L1 c1 L2 c2 : Nat) (m1 : L1 ≤ 300) (m2 : L2 ≤ 300) (w : World) (h1 : Nt w w.heap.size A1 L1 c1 x.natAbs) (h2 : Nt w w.heap.size A2 L2 c2 y.natAbs) :
    Calls Tryz.prog 75 #[.agg #[.bool (decide (x < 0)), .slice A1 L1 c1], .agg #[.bool (decide (y < 0)), .slice A2 L2 c2]] w fun e w' => ∃ Aq Lq cq Ar Lr cr, e = .returned (.tuple #[.agg #[.bool (decide (x / y < 0)), .slice Aq Lq cq], .agg #[.bool (decide (x % y < 0)), .slice Ar Lr cr]]) ∧
      Nt w' w'.heap.size Aq Lq cq (x / y).natAbs ∧ Nt w' w'.heap.size Ar Lr cr (x % y).natAbs ∧ Below w.heap.size w w' := by
  have hd := div_sized x y hy
  have hc := ndivide_sized (decide (x < 0)) (decide (y < 0)) A1 A2 L1 c1 x.natAbs L2 c2 y.natAbs m1 m2 (by omega) w h1 h2
  have e1 : decide (x / y < 0) = (!(decide (x < 0) == decide (y < 0)) && decide (0 < qN (decide (x < 0)) x.natAbs y.natAbs)) := by
    rw [hd.1]
    cases (!(decide (x < 0) == decide (y < 0)))
    · simp
    · simp
  have e2 : (x / y).natAbs = qN (decide (x < 0)) x.natAbs y.natAbs := by
    rw [hd.1]
    cases (!(decide (x < 0) == decide (y < 0))) <;> simp
  have e3 : (x % y).natAbs = rN (decide (x < 0)) x.natAbs y.natAbs := by rw [hd.2]; simp
  have e4 : decide (x % y < 0) = false := by rw [hd.2]; simp
  rw [e1, e2, e3, e4]
  exact hc
theorem sg_ok {s : ByteArray} (h : validB s.data.toList = true) : sgB s = decide (numB s < 0) := by rw [sgB, h]; rfl
theorem sz_ok {s : ByteArray} (h : validB s.data.toList = true) : szB s = (numB s).natAbs := by rw [szB, h]; rfl
theorem both_and {a b : ByteArray} (h : both a b = true) : validB a.data.toList = true ∧ validB b.data.toList = true := by simpa [both] using h
theorem sz_small (s : ByteArray) : szB s < 10000 ^ 50 := by
  cases h : validB s.data.toList
  · rw [szB, h]; exact Nat.pow_pos (by decide)
  · rw [sz_ok h]; exact num_small s h
theorem nt_300 {w : World} {B : Nat} {A : Option Addr} {L c : Nat} {s : ByteArray} (h : Nt w B A L c (szB s)) : L ≤ 300 := Nat.le_trans (nt_50 h (sz_small s)) (by decide)

set_option maxRecDepth 100000 in
set_option maxHeartbeats 8000000 in
theorem operate_plus (a b : ByteArray) (w : World) (ht : Tab w) :
    Calls Tryz.prog 88 #[.string a, .string b, .func (.func 93) #[] #[]] w fun e w' => e = .returned (.tuple #[.string (opT (fun x y => x + y) a b), .int .i64 (opE (fun x y => x + y) a b)]) ∧ Below w.heap.size w w' := by
  have cB := fun W => both_any a b W
  cases hv : both a b
  · have e1 : opT (fun x y => x + y) a b = ByteArray.empty := by rw [opT, hv]; rfl
    have e2 : opE (fun x y => x + y) a b = 30 := by rw [opE, hv]; rfl
    rw [e1, e2]
    rw [hv] at cB
    have CB := Lib.hid cB
    clear hv e1 e2 cB ht
    go_enter Tryz.func88, Tryz.ntmps88
    go_wp2_with (first
      | (go_at_call 73; (with_reducible refine (CB.out _).mono ?_); rintro e w1 ⟨A1, L1, c1, A2, L2, c2, rfl, hN1, hN2, hb1⟩)
      | fail)
    go_ret2
    exact ⟨rfl, below_step (below_step hb1 (below_alloc _ _)) (below_alloc _ _)⟩
  · obtain ⟨va, vb⟩ := both_and hv
    have e1 : opT (fun x y => x + y) a b = outT ((fun x y => x + y) (numB a) (numB b)) := by rw [opT, hv]; rfl
    have e2 : opE (fun x y => x + y) a b = outE ((fun x y => x + y) (numB a) (numB b)) := by rw [opE, hv]; rfl
    rw [e1, e2]
    rw [hv] at cB
    have hsa := sg_ok va
    have hsb := sg_ok vb
    have hna := sz_ok va
    have hnb := sz_ok vb
    obtain ⟨Z, hZ⟩ : ∃ Z, Z = (fun x y => x + y) (numB a) (numB b) := ⟨_, rfl⟩
    obtain ⟨sz, hsz⟩ : ∃ sz, sz = decide (Z < 0) := ⟨_, rfl⟩
    have zbound : Z.natAbs < 10000 ^ 100 := by
      have h1 := num_small a va
      have h2 := num_small b vb
      have h3 : (10000 : Nat) ^ 100 = 10000 ^ 50 * 10000 ^ 50 := by rw [← Nat.pow_add]
      have h4 : 2 ≤ (10000 : Nat) ^ 50 := Nat.le_trans (by decide) (Nat.pow_le_pow_right (n := 10000) (by decide) (show 1 ≤ 50 by decide))
      have h5 := Nat.mul_le_mul_left ((10000 : Nat) ^ 50) h4
      rw [← h3] at h5
      have h6 : Z.natAbs ≤ (numB a).natAbs + (numB b).natAbs := by rw [hZ]; show (numB a + numB b).natAbs ≤ _; omega
      omega
    have cO := fun (A1 A2 : Option Addr) (L1 c1 L2 c2 : Nat) W (h1 : Nt W W.heap.size A1 L1 c1 (szB a)) (h2 : Nt W W.heap.size A2 L2 c2 (szB b)) => by
      rw [hna] at h1
      rw [hnb] at h2
      have hc := nplus_any (numB a) (numB b) A1 A2 L1 c1 L2 c2 (nt_300 (s := a) (by rw [hna]; exact h1)) (nt_300 (s := b) (by rw [hnb]; exact h2)) W h1 h2
      have hZ2 : Z = numB a + numB b := hZ
      rw [← hZ2, ← hsz, ← hsa, ← hsb] at hc
      exact hc.mono (fun e w' h => by
        obtain ⟨A, L, c, h1, h2, h3⟩ := h
        exact (⟨A, L, c, h1, h2, Nat.le_trans (nt_50 h2 zbound) (by decide), h3⟩ : ∃ A L c, e = .returned (.agg #[.bool sz, .slice A L c]) ∧ Nt w' w'.heap.size A L c Z.natAbs ∧ L ≤ 900 ∧ Below W.heap.size W w'))
    have cT := fun (A : Option Addr) (L c : Nat) (m : L ≤ 900) W (h : Nt W W.heap.size A L c Z.natAbs) (ht : Tab W) => ntext_at Z A L c m W h ht
    rw [← hsz] at cT
    have cV := fun W => valid_any (dec Z) W
    rw [valid_dec] at cV
    rw [← hZ]
    have hbz := zbound
    have e3 : outT Z = if fits Z then dec Z else ByteArray.empty := rfl
    have e4 : outE Z = if fits Z then 0 else 30 := rfl
    obtain ⟨X, hX⟩ : ∃ X, X = dec Z := ⟨_, rfl⟩
    rw [← hX] at cT cV e3
    have CB := Lib.hid cB; have CO := Lib.hid cO; have CT := Lib.hid cT; have CV := Lib.hid cV; have HT := Lib.hid ht; have E3 := Lib.hid e3; have E4 := Lib.hid e4
    clear hv e1 e2 cB cO cT cV va vb hsa hsb hna hnb hsz hX e3 e4 ht hZ hbz
    cases hf : fits Z
    · rw [hf] at CV E3 E4
      have e3 := E3.out
      have e4 := E4.out
      rw [if_neg (by decide)] at e3 e4
      rw [e3, e4]
      clear e3 e4
      go_enter Tryz.func88, Tryz.ntmps88
      go_wp2_with (first
        | (go_at_call 73; (with_reducible refine (CB.out _).mono ?_); rintro e w1 ⟨A1, L1, c1, A2, L2, c2, rfl, hN1, hN2, hb1⟩; have hb1a := below_step (below_step hb1 (below_alloc w1 (.cells #[.bool (sgB a), .slice A1 L1 c1] 91))) (below_alloc _ (.cells #[.bool (sgB b), .slice A2 L2 c2] 91)))
        | (go_at_call 93; (with_reducible refine (CO.out _ _ _ _ _ _ _ ((hN1.kept (below_alloc _ _)).kept (below_alloc _ _)) ((hN2.kept (below_alloc _ _)).kept (below_alloc _ _))).mono ?_); rintro e w2 ⟨A3, L3, c3, rfl, hN3, hL3, hb2⟩; have hb2a := below_step hb1a hb2)
        | (go_at_call 76; (with_reducible refine (CT.out _ _ _ hL3 _ hN3 (HT.out.below hb2a)).mono ?_); rintro e w3 ⟨rfl, hb3⟩; have hb3a := below_step hb2a hb3)
        | (go_at_call 116; (with_reducible refine (CV.out _).mono ?_); rintro e w4 ⟨rfl, hb4⟩; have hb4a := below_step hb3a hb4)
        | fail)
      go_ret2
      exact ⟨rfl, hb4a⟩
    · rw [hf] at CV E3 E4
      have e3 := E3.out
      have e4 := E4.out
      rw [if_pos rfl] at e3 e4
      rw [e3, e4]
      clear e3 e4
      go_enter Tryz.func88, Tryz.ntmps88
      go_wp2_with (first
        | (go_at_call 73; (with_reducible refine (CB.out _).mono ?_); rintro e w1 ⟨A1, L1, c1, A2, L2, c2, rfl, hN1, hN2, hb1⟩; have hb1a := below_step (below_step hb1 (below_alloc w1 (.cells #[.bool (sgB a), .slice A1 L1 c1] 91))) (below_alloc _ (.cells #[.bool (sgB b), .slice A2 L2 c2] 91)))
        | (go_at_call 93; (with_reducible refine (CO.out _ _ _ _ _ _ _ ((hN1.kept (below_alloc _ _)).kept (below_alloc _ _)) ((hN2.kept (below_alloc _ _)).kept (below_alloc _ _))).mono ?_); rintro e w2 ⟨A3, L3, c3, rfl, hN3, hL3, hb2⟩; have hb2a := below_step hb1a hb2)
        | (go_at_call 76; (with_reducible refine (CT.out _ _ _ hL3 _ hN3 (HT.out.below hb2a)).mono ?_); rintro e w3 ⟨rfl, hb3⟩; have hb3a := below_step hb2a hb3)
        | (go_at_call 116; (with_reducible refine (CV.out _).mono ?_); rintro e w4 ⟨rfl, hb4⟩; have hb4a := below_step hb3a hb4)
        | fail)
      go_ret2
      exact ⟨rfl, hb4a⟩

set_option maxRecDepth 100000 in
set_option maxHeartbeats 4000000 in
theorem add_any (a b : ByteArray) (w : World) (ht : Tab w) :
    Calls Tryz.prog 64 #[.string a, .string b] w fun e w' => e = .returned (.tuple #[.string (opT (fun x y => x + y) a b), .int .i64 (opE (fun x y => x + y) a b)]) ∧ Below w.heap.size w w' := by
  have cO := operate_plus a b w ht
  obtain ⟨T, hT⟩ : ∃ T, T = opT (fun x y => x + y) a b := ⟨_, rfl⟩
  obtain ⟨E, hE⟩ : ∃ E, E = opE (fun x y => x + y) a b := ⟨_, rfl⟩
  rw [← hT, ← hE] at cO ⊢
  clear hT hE ht
  go_enter Tryz.func64, Tryz.ntmps64
  go_wp2_with (first | (go_at_call 88; (with_reducible refine cO.mono ?_); rintro e w1 ⟨rfl, hb1⟩) | fail)
  go_ret2
  exact ⟨rfl, hb1⟩

set_option maxRecDepth 100000 in
set_option maxHeartbeats 8000000 in
theorem operate_minus (a b : ByteArray) (w : World) (ht : Tab w) :
    Calls Tryz.prog 88 #[.string a, .string b, .func (.func 99) #[] #[]] w fun e w' => e = .returned (.tuple #[.string (opT (fun x y => x - y) a b), .int .i64 (opE (fun x y => x - y) a b)]) ∧ Below w.heap.size w w' := by
  have cB := fun W => both_any a b W
  cases hv : both a b
  · have e1 : opT (fun x y => x - y) a b = ByteArray.empty := by rw [opT, hv]; rfl
    have e2 : opE (fun x y => x - y) a b = 30 := by rw [opE, hv]; rfl
    rw [e1, e2]
    rw [hv] at cB
    have CB := Lib.hid cB
    clear hv e1 e2 cB ht
    go_enter Tryz.func88, Tryz.ntmps88
    go_wp2_with (first
      | (go_at_call 73; (with_reducible refine (CB.out _).mono ?_); rintro e w1 ⟨A1, L1, c1, A2, L2, c2, rfl, hN1, hN2, hb1⟩)
      | fail)
    go_ret2
    exact ⟨rfl, below_step (below_step hb1 (below_alloc _ _)) (below_alloc _ _)⟩
  · obtain ⟨va, vb⟩ := both_and hv
    have e1 : opT (fun x y => x - y) a b = outT ((fun x y => x - y) (numB a) (numB b)) := by rw [opT, hv]; rfl
    have e2 : opE (fun x y => x - y) a b = outE ((fun x y => x - y) (numB a) (numB b)) := by rw [opE, hv]; rfl
    rw [e1, e2]
    rw [hv] at cB
    have hsa := sg_ok va
    have hsb := sg_ok vb
    have hna := sz_ok va
    have hnb := sz_ok vb
    obtain ⟨Z, hZ⟩ : ∃ Z, Z = (fun x y => x - y) (numB a) (numB b) := ⟨_, rfl⟩
    obtain ⟨sz, hsz⟩ : ∃ sz, sz = decide (Z < 0) := ⟨_, rfl⟩
    have zbound : Z.natAbs < 10000 ^ 100 := by
      have h1 := num_small a va
      have h2 := num_small b vb
      have h3 : (10000 : Nat) ^ 100 = 10000 ^ 50 * 10000 ^ 50 := by rw [← Nat.pow_add]
      have h4 : 2 ≤ (10000 : Nat) ^ 50 := Nat.le_trans (by decide) (Nat.pow_le_pow_right (n := 10000) (by decide) (show 1 ≤ 50 by decide))
      have h5 := Nat.mul_le_mul_left ((10000 : Nat) ^ 50) h4
      rw [← h3] at h5
      have h6 : Z.natAbs ≤ (numB a).natAbs + (numB b).natAbs := by rw [hZ]; show (numB a - numB b).natAbs ≤ _; omega
      omega
    have cO := fun (A1 A2 : Option Addr) (L1 c1 L2 c2 : Nat) W (h1 : Nt W W.heap.size A1 L1 c1 (szB a)) (h2 : Nt W W.heap.size A2 L2 c2 (szB b)) => by
      rw [hna] at h1
      rw [hnb] at h2
      have hc := nminus_any (numB a) (numB b) A1 A2 L1 c1 L2 c2 (nt_300 (s := a) (by rw [hna]; exact h1)) (nt_300 (s := b) (by rw [hnb]; exact h2)) W h1 h2
      have hZ2 : Z = numB a - numB b := hZ
      rw [← hZ2, ← hsz, ← hsa, ← hsb] at hc
      exact hc.mono (fun e w' h => by
        obtain ⟨A, L, c, h1, h2, h3⟩ := h
        exact (⟨A, L, c, h1, h2, Nat.le_trans (nt_50 h2 zbound) (by decide), h3⟩ : ∃ A L c, e = .returned (.agg #[.bool sz, .slice A L c]) ∧ Nt w' w'.heap.size A L c Z.natAbs ∧ L ≤ 900 ∧ Below W.heap.size W w'))
    have cT := fun (A : Option Addr) (L c : Nat) (m : L ≤ 900) W (h : Nt W W.heap.size A L c Z.natAbs) (ht : Tab W) => ntext_at Z A L c m W h ht
    rw [← hsz] at cT
    have cV := fun W => valid_any (dec Z) W
    rw [valid_dec] at cV
    rw [← hZ]
    have hbz := zbound
    have e3 : outT Z = if fits Z then dec Z else ByteArray.empty := rfl
    have e4 : outE Z = if fits Z then 0 else 30 := rfl
    obtain ⟨X, hX⟩ : ∃ X, X = dec Z := ⟨_, rfl⟩
    rw [← hX] at cT cV e3
    have CB := Lib.hid cB; have CO := Lib.hid cO; have CT := Lib.hid cT; have CV := Lib.hid cV; have HT := Lib.hid ht; have E3 := Lib.hid e3; have E4 := Lib.hid e4
    clear hv e1 e2 cB cO cT cV va vb hsa hsb hna hnb hsz hX e3 e4 ht hZ hbz
    cases hf : fits Z
    · rw [hf] at CV E3 E4
      have e3 := E3.out
      have e4 := E4.out
      rw [if_neg (by decide)] at e3 e4
      rw [e3, e4]
      clear e3 e4
      go_enter Tryz.func88, Tryz.ntmps88
      go_wp2_with (first
        | (go_at_call 73; (with_reducible refine (CB.out _).mono ?_); rintro e w1 ⟨A1, L1, c1, A2, L2, c2, rfl, hN1, hN2, hb1⟩; have hb1a := below_step (below_step hb1 (below_alloc w1 (.cells #[.bool (sgB a), .slice A1 L1 c1] 91))) (below_alloc _ (.cells #[.bool (sgB b), .slice A2 L2 c2] 91)))
        | (go_at_call 99; (with_reducible refine (CO.out _ _ _ _ _ _ _ ((hN1.kept (below_alloc _ _)).kept (below_alloc _ _)) ((hN2.kept (below_alloc _ _)).kept (below_alloc _ _))).mono ?_); rintro e w2 ⟨A3, L3, c3, rfl, hN3, hL3, hb2⟩; have hb2a := below_step hb1a hb2)
        | (go_at_call 76; (with_reducible refine (CT.out _ _ _ hL3 _ hN3 (HT.out.below hb2a)).mono ?_); rintro e w3 ⟨rfl, hb3⟩; have hb3a := below_step hb2a hb3)
        | (go_at_call 116; (with_reducible refine (CV.out _).mono ?_); rintro e w4 ⟨rfl, hb4⟩; have hb4a := below_step hb3a hb4)
        | fail)
      go_ret2
      exact ⟨rfl, hb4a⟩
    · rw [hf] at CV E3 E4
      have e3 := E3.out
      have e4 := E4.out
      rw [if_pos rfl] at e3 e4
      rw [e3, e4]
      clear e3 e4
      go_enter Tryz.func88, Tryz.ntmps88
      go_wp2_with (first
        | (go_at_call 73; (with_reducible refine (CB.out _).mono ?_); rintro e w1 ⟨A1, L1, c1, A2, L2, c2, rfl, hN1, hN2, hb1⟩; have hb1a := below_step (below_step hb1 (below_alloc w1 (.cells #[.bool (sgB a), .slice A1 L1 c1] 91))) (below_alloc _ (.cells #[.bool (sgB b), .slice A2 L2 c2] 91)))
        | (go_at_call 99; (with_reducible refine (CO.out _ _ _ _ _ _ _ ((hN1.kept (below_alloc _ _)).kept (below_alloc _ _)) ((hN2.kept (below_alloc _ _)).kept (below_alloc _ _))).mono ?_); rintro e w2 ⟨A3, L3, c3, rfl, hN3, hL3, hb2⟩; have hb2a := below_step hb1a hb2)
        | (go_at_call 76; (with_reducible refine (CT.out _ _ _ hL3 _ hN3 (HT.out.below hb2a)).mono ?_); rintro e w3 ⟨rfl, hb3⟩; have hb3a := below_step hb2a hb3)
        | (go_at_call 116; (with_reducible refine (CV.out _).mono ?_); rintro e w4 ⟨rfl, hb4⟩; have hb4a := below_step hb3a hb4)
        | fail)
      go_ret2
      exact ⟨rfl, hb4a⟩

set_option maxRecDepth 100000 in
set_option maxHeartbeats 4000000 in
theorem sub_any (a b : ByteArray) (w : World) (ht : Tab w) :
    Calls Tryz.prog 67 #[.string a, .string b] w fun e w' => e = .returned (.tuple #[.string (opT (fun x y => x - y) a b), .int .i64 (opE (fun x y => x - y) a b)]) ∧ Below w.heap.size w w' := by
  have cO := operate_minus a b w ht
  obtain ⟨T, hT⟩ : ∃ T, T = opT (fun x y => x - y) a b := ⟨_, rfl⟩
  obtain ⟨E, hE⟩ : ∃ E, E = opE (fun x y => x - y) a b := ⟨_, rfl⟩
  rw [← hT, ← hE] at cO ⊢
  clear hT hE ht
  go_enter Tryz.func67, Tryz.ntmps67
  go_wp2_with (first | (go_at_call 88; (with_reducible refine cO.mono ?_); rintro e w1 ⟨rfl, hb1⟩) | fail)
  go_ret2
  exact ⟨rfl, hb1⟩

set_option maxRecDepth 100000 in
set_option maxHeartbeats 8000000 in
theorem operate_times (a b : ByteArray) (w : World) (ht : Tab w) :
    Calls Tryz.prog 88 #[.string a, .string b, .func (.func 121) #[] #[]] w fun e w' => e = .returned (.tuple #[.string (opT (fun x y => x * y) a b), .int .i64 (opE (fun x y => x * y) a b)]) ∧ Below w.heap.size w w' := by
  have cB := fun W => both_any a b W
  cases hv : both a b
  · have e1 : opT (fun x y => x * y) a b = ByteArray.empty := by rw [opT, hv]; rfl
    have e2 : opE (fun x y => x * y) a b = 30 := by rw [opE, hv]; rfl
    rw [e1, e2]
    rw [hv] at cB
    have CB := Lib.hid cB
    clear hv e1 e2 cB ht
    go_enter Tryz.func88, Tryz.ntmps88
    go_wp2_with (first
      | (go_at_call 73; (with_reducible refine (CB.out _).mono ?_); rintro e w1 ⟨A1, L1, c1, A2, L2, c2, rfl, hN1, hN2, hb1⟩)
      | fail)
    go_ret2
    exact ⟨rfl, below_step (below_step hb1 (below_alloc _ _)) (below_alloc _ _)⟩
  · obtain ⟨va, vb⟩ := both_and hv
    have e1 : opT (fun x y => x * y) a b = outT ((fun x y => x * y) (numB a) (numB b)) := by rw [opT, hv]; rfl
    have e2 : opE (fun x y => x * y) a b = outE ((fun x y => x * y) (numB a) (numB b)) := by rw [opE, hv]; rfl
    rw [e1, e2]
    rw [hv] at cB
    have hsa := sg_ok va
    have hsb := sg_ok vb
    have hna := sz_ok va
    have hnb := sz_ok vb
    obtain ⟨Z, hZ⟩ : ∃ Z, Z = (fun x y => x * y) (numB a) (numB b) := ⟨_, rfl⟩
    obtain ⟨sz, hsz⟩ : ∃ sz, sz = decide (Z < 0) := ⟨_, rfl⟩
    have zbound : Z.natAbs < 10000 ^ 100 := by
      have h1 := num_small a va
      have h2 := num_small b vb
      have h3 : (10000 : Nat) ^ 100 = 10000 ^ 50 * 10000 ^ 50 := by rw [← Nat.pow_add]
      rw [hZ, h3]
      show (numB a * numB b).natAbs < _
      rw [Int.natAbs_mul]
      exact Nat.mul_lt_mul'' h1 h2
    have cO := fun (A1 A2 : Option Addr) (L1 c1 L2 c2 : Nat) W (h1 : Nt W W.heap.size A1 L1 c1 (szB a)) (h2 : Nt W W.heap.size A2 L2 c2 (szB b)) => by
      rw [hna] at h1
      rw [hnb] at h2
      have hc := ntimes_any (numB a) (numB b) A1 A2 L1 c1 L2 c2 (nt_300 (s := a) (by rw [hna]; exact h1)) (nt_300 (s := b) (by rw [hnb]; exact h2)) W h1 h2
      have hZ2 : Z = numB a * numB b := hZ
      rw [← hZ2, ← hsz, ← hsa, ← hsb] at hc
      exact hc.mono (fun e w' h => by
        obtain ⟨A, L, c, h1, h2, h3⟩ := h
        exact (⟨A, L, c, h1, h2, Nat.le_trans (nt_50 h2 zbound) (by decide), h3⟩ : ∃ A L c, e = .returned (.agg #[.bool sz, .slice A L c]) ∧ Nt w' w'.heap.size A L c Z.natAbs ∧ L ≤ 900 ∧ Below W.heap.size W w'))
    have cT := fun (A : Option Addr) (L c : Nat) (m : L ≤ 900) W (h : Nt W W.heap.size A L c Z.natAbs) (ht : Tab W) => ntext_at Z A L c m W h ht
    rw [← hsz] at cT
    have cV := fun W => valid_any (dec Z) W
    rw [valid_dec] at cV
    rw [← hZ]
    have hbz := zbound
    have e3 : outT Z = if fits Z then dec Z else ByteArray.empty := rfl
    have e4 : outE Z = if fits Z then 0 else 30 := rfl
    obtain ⟨X, hX⟩ : ∃ X, X = dec Z := ⟨_, rfl⟩
    rw [← hX] at cT cV e3
    have CB := Lib.hid cB; have CO := Lib.hid cO; have CT := Lib.hid cT; have CV := Lib.hid cV; have HT := Lib.hid ht; have E3 := Lib.hid e3; have E4 := Lib.hid e4
    clear hv e1 e2 cB cO cT cV va vb hsa hsb hna hnb hsz hX e3 e4 ht hZ hbz
    cases hf : fits Z
    · rw [hf] at CV E3 E4
      have e3 := E3.out
      have e4 := E4.out
      rw [if_neg (by decide)] at e3 e4
      rw [e3, e4]
      clear e3 e4
      go_enter Tryz.func88, Tryz.ntmps88
      go_wp2_with (first
        | (go_at_call 73; (with_reducible refine (CB.out _).mono ?_); rintro e w1 ⟨A1, L1, c1, A2, L2, c2, rfl, hN1, hN2, hb1⟩; have hb1a := below_step (below_step hb1 (below_alloc w1 (.cells #[.bool (sgB a), .slice A1 L1 c1] 91))) (below_alloc _ (.cells #[.bool (sgB b), .slice A2 L2 c2] 91)))
        | (go_at_call 121; (with_reducible refine (CO.out _ _ _ _ _ _ _ ((hN1.kept (below_alloc _ _)).kept (below_alloc _ _)) ((hN2.kept (below_alloc _ _)).kept (below_alloc _ _))).mono ?_); rintro e w2 ⟨A3, L3, c3, rfl, hN3, hL3, hb2⟩; have hb2a := below_step hb1a hb2)
        | (go_at_call 76; (with_reducible refine (CT.out _ _ _ hL3 _ hN3 (HT.out.below hb2a)).mono ?_); rintro e w3 ⟨rfl, hb3⟩; have hb3a := below_step hb2a hb3)
        | (go_at_call 116; (with_reducible refine (CV.out _).mono ?_); rintro e w4 ⟨rfl, hb4⟩; have hb4a := below_step hb3a hb4)
        | fail)
      go_ret2
      exact ⟨rfl, hb4a⟩
    · rw [hf] at CV E3 E4
      have e3 := E3.out
      have e4 := E4.out
      rw [if_pos rfl] at e3 e4
      rw [e3, e4]
      clear e3 e4
      go_enter Tryz.func88, Tryz.ntmps88
      go_wp2_with (first
        | (go_at_call 73; (with_reducible refine (CB.out _).mono ?_); rintro e w1 ⟨A1, L1, c1, A2, L2, c2, rfl, hN1, hN2, hb1⟩; have hb1a := below_step (below_step hb1 (below_alloc w1 (.cells #[.bool (sgB a), .slice A1 L1 c1] 91))) (below_alloc _ (.cells #[.bool (sgB b), .slice A2 L2 c2] 91)))
        | (go_at_call 121; (with_reducible refine (CO.out _ _ _ _ _ _ _ ((hN1.kept (below_alloc _ _)).kept (below_alloc _ _)) ((hN2.kept (below_alloc _ _)).kept (below_alloc _ _))).mono ?_); rintro e w2 ⟨A3, L3, c3, rfl, hN3, hL3, hb2⟩; have hb2a := below_step hb1a hb2)
        | (go_at_call 76; (with_reducible refine (CT.out _ _ _ hL3 _ hN3 (HT.out.below hb2a)).mono ?_); rintro e w3 ⟨rfl, hb3⟩; have hb3a := below_step hb2a hb3)
        | (go_at_call 116; (with_reducible refine (CV.out _).mono ?_); rintro e w4 ⟨rfl, hb4⟩; have hb4a := below_step hb3a hb4)
        | fail)
      go_ret2
      exact ⟨rfl, hb4a⟩

set_option maxRecDepth 100000 in
set_option maxHeartbeats 4000000 in
theorem mul_any (a b : ByteArray) (w : World) (ht : Tab w) :
    Calls Tryz.prog 97 #[.string a, .string b] w fun e w' => e = .returned (.tuple #[.string (opT (fun x y => x * y) a b), .int .i64 (opE (fun x y => x * y) a b)]) ∧ Below w.heap.size w w' := by
  have cO := operate_times a b w ht
  obtain ⟨T, hT⟩ : ∃ T, T = opT (fun x y => x * y) a b := ⟨_, rfl⟩
  obtain ⟨E, hE⟩ : ∃ E, E = opE (fun x y => x * y) a b := ⟨_, rfl⟩
  rw [← hT, ← hE] at cO ⊢
  clear hT hE ht
  go_enter Tryz.func97, Tryz.ntmps97
  go_wp2_with (first | (go_at_call 88; (with_reducible refine cO.mono ?_); rintro e w1 ⟨rfl, hb1⟩) | fail)
  go_ret2
  exact ⟨rfl, hb1⟩

set_option maxRecDepth 100000 in
set_option maxHeartbeats 8000000 in
theorem operate_gcd (a b : ByteArray) (w : World) (ht : Tab w) :
    Calls Tryz.prog 88 #[.string a, .string b, .func (.func 89) #[] #[]] w fun e w' => e = .returned (.tuple #[.string (opT (fun x y => (Int.gcd x y : Int)) a b), .int .i64 (opE (fun x y => (Int.gcd x y : Int)) a b)]) ∧ Below w.heap.size w w' := by
  have cB := fun W => both_any a b W
  cases hv : both a b
  · have e1 : opT (fun x y => (Int.gcd x y : Int)) a b = ByteArray.empty := by rw [opT, hv]; rfl
    have e2 : opE (fun x y => (Int.gcd x y : Int)) a b = 30 := by rw [opE, hv]; rfl
    rw [e1, e2]
    rw [hv] at cB
    have CB := Lib.hid cB
    clear hv e1 e2 cB ht
    go_enter Tryz.func88, Tryz.ntmps88
    go_wp2_with (first
      | (go_at_call 73; (with_reducible refine (CB.out _).mono ?_); rintro e w1 ⟨A1, L1, c1, A2, L2, c2, rfl, hN1, hN2, hb1⟩)
      | fail)
    go_ret2
    exact ⟨rfl, below_step (below_step hb1 (below_alloc _ _)) (below_alloc _ _)⟩
  · obtain ⟨va, vb⟩ := both_and hv
    have e1 : opT (fun x y => (Int.gcd x y : Int)) a b = outT ((fun x y => (Int.gcd x y : Int)) (numB a) (numB b)) := by rw [opT, hv]; rfl
    have e2 : opE (fun x y => (Int.gcd x y : Int)) a b = outE ((fun x y => (Int.gcd x y : Int)) (numB a) (numB b)) := by rw [opE, hv]; rfl
    rw [e1, e2]
    rw [hv] at cB
    have hsa := sg_ok va
    have hsb := sg_ok vb
    have hna := sz_ok va
    have hnb := sz_ok vb
    obtain ⟨Z, hZ⟩ : ∃ Z, Z = (fun x y => (Int.gcd x y : Int)) (numB a) (numB b) := ⟨_, rfl⟩
    obtain ⟨sz, hsz⟩ : ∃ sz, sz = decide (Z < 0) := ⟨_, rfl⟩
    have zbound : Z.natAbs < 10000 ^ 100 := by
      have h1 := num_small a va
      have h2 := num_small b vb
      have h3 : Z.natAbs = Nat.gcd (numB a).natAbs (numB b).natAbs := by rw [hZ]; rfl
      rw [h3]
      refine Nat.lt_of_lt_of_le ?_ (Nat.pow_le_pow_right (n := 10000) (by decide) (show 50 ≤ 100 by decide))
      rcases Nat.eq_zero_or_pos (numB a).natAbs with h0 | h0
      · rw [h0, Nat.gcd_zero_left]; exact h2
      · exact Nat.lt_of_le_of_lt (Nat.gcd_le_left _ h0) h1
    have cO := fun (A1 A2 : Option Addr) (L1 c1 L2 c2 : Nat) W (h1 : Nt W W.heap.size A1 L1 c1 (szB a)) (h2 : Nt W W.heap.size A2 L2 c2 (szB b)) => by
      have hc := ngcd_any (sgB a) (sgB b) A1 A2 L1 c1 (szB a) L2 c2 (szB b) (nt_300 h1) (nt_300 h2) W h1 h2
      have e5 : sz = false := by rw [hsz, hZ]; simp
      have e6 : Z.natAbs = Nat.gcd (szB a) (szB b) := by rw [hZ, hna, hnb]; rfl
      rw [← e5, ← e6] at hc
      exact hc.mono (fun e w' h => by
        obtain ⟨A, L, c, h1, h2, h3⟩ := h
        exact (⟨A, L, c, h1, h2, Nat.le_trans (nt_50 h2 zbound) (by decide), h3⟩ : ∃ A L c, e = .returned (.agg #[.bool sz, .slice A L c]) ∧ Nt w' w'.heap.size A L c Z.natAbs ∧ L ≤ 900 ∧ Below W.heap.size W w'))
    have cT := fun (A : Option Addr) (L c : Nat) (m : L ≤ 900) W (h : Nt W W.heap.size A L c Z.natAbs) (ht : Tab W) => ntext_at Z A L c m W h ht
    rw [← hsz] at cT
    have cV := fun W => valid_any (dec Z) W
    rw [valid_dec] at cV
    rw [← hZ]
    have hbz := zbound
    have e3 : outT Z = if fits Z then dec Z else ByteArray.empty := rfl
    have e4 : outE Z = if fits Z then 0 else 30 := rfl
    obtain ⟨X, hX⟩ : ∃ X, X = dec Z := ⟨_, rfl⟩
    rw [← hX] at cT cV e3
    have CB := Lib.hid cB; have CO := Lib.hid cO; have CT := Lib.hid cT; have CV := Lib.hid cV; have HT := Lib.hid ht; have E3 := Lib.hid e3; have E4 := Lib.hid e4
    clear hv e1 e2 cB cO cT cV va vb hsa hsb hna hnb hsz hX e3 e4 ht hZ hbz
    cases hf : fits Z
    · rw [hf] at CV E3 E4
      have e3 := E3.out
      have e4 := E4.out
      rw [if_neg (by decide)] at e3 e4
      rw [e3, e4]
      clear e3 e4
      go_enter Tryz.func88, Tryz.ntmps88
      go_wp2_with (first
        | (go_at_call 73; (with_reducible refine (CB.out _).mono ?_); rintro e w1 ⟨A1, L1, c1, A2, L2, c2, rfl, hN1, hN2, hb1⟩; have hb1a := below_step (below_step hb1 (below_alloc w1 (.cells #[.bool (sgB a), .slice A1 L1 c1] 91))) (below_alloc _ (.cells #[.bool (sgB b), .slice A2 L2 c2] 91)))
        | (go_at_call 89; (with_reducible refine (CO.out _ _ _ _ _ _ _ ((hN1.kept (below_alloc _ _)).kept (below_alloc _ _)) ((hN2.kept (below_alloc _ _)).kept (below_alloc _ _))).mono ?_); rintro e w2 ⟨A3, L3, c3, rfl, hN3, hL3, hb2⟩; have hb2a := below_step hb1a hb2)
        | (go_at_call 76; (with_reducible refine (CT.out _ _ _ hL3 _ hN3 (HT.out.below hb2a)).mono ?_); rintro e w3 ⟨rfl, hb3⟩; have hb3a := below_step hb2a hb3)
        | (go_at_call 116; (with_reducible refine (CV.out _).mono ?_); rintro e w4 ⟨rfl, hb4⟩; have hb4a := below_step hb3a hb4)
        | fail)
      go_ret2
      exact ⟨rfl, hb4a⟩
    · rw [hf] at CV E3 E4
      have e3 := E3.out
      have e4 := E4.out
      rw [if_pos rfl] at e3 e4
      rw [e3, e4]
      clear e3 e4
      go_enter Tryz.func88, Tryz.ntmps88
      go_wp2_with (first
        | (go_at_call 73; (with_reducible refine (CB.out _).mono ?_); rintro e w1 ⟨A1, L1, c1, A2, L2, c2, rfl, hN1, hN2, hb1⟩; have hb1a := below_step (below_step hb1 (below_alloc w1 (.cells #[.bool (sgB a), .slice A1 L1 c1] 91))) (below_alloc _ (.cells #[.bool (sgB b), .slice A2 L2 c2] 91)))
        | (go_at_call 89; (with_reducible refine (CO.out _ _ _ _ _ _ _ ((hN1.kept (below_alloc _ _)).kept (below_alloc _ _)) ((hN2.kept (below_alloc _ _)).kept (below_alloc _ _))).mono ?_); rintro e w2 ⟨A3, L3, c3, rfl, hN3, hL3, hb2⟩; have hb2a := below_step hb1a hb2)
        | (go_at_call 76; (with_reducible refine (CT.out _ _ _ hL3 _ hN3 (HT.out.below hb2a)).mono ?_); rintro e w3 ⟨rfl, hb3⟩; have hb3a := below_step hb2a hb3)
        | (go_at_call 116; (with_reducible refine (CV.out _).mono ?_); rintro e w4 ⟨rfl, hb4⟩; have hb4a := below_step hb3a hb4)
        | fail)
      go_ret2
      exact ⟨rfl, hb4a⟩

set_option maxRecDepth 100000 in
set_option maxHeartbeats 4000000 in
theorem gcd_any (a b : ByteArray) (w : World) (ht : Tab w) :
    Calls Tryz.prog 60 #[.string a, .string b] w fun e w' => e = .returned (.tuple #[.string (opT (fun x y => (Int.gcd x y : Int)) a b), .int .i64 (opE (fun x y => (Int.gcd x y : Int)) a b)]) ∧ Below w.heap.size w w' := by
  have cO := operate_gcd a b w ht
  obtain ⟨T, hT⟩ : ∃ T, T = opT (fun x y => (Int.gcd x y : Int)) a b := ⟨_, rfl⟩
  obtain ⟨E, hE⟩ : ∃ E, E = opE (fun x y => (Int.gcd x y : Int)) a b := ⟨_, rfl⟩
  rw [← hT, ← hE] at cO ⊢
  clear hT hE ht
  go_enter Tryz.func60, Tryz.ntmps60
  go_wp2_with (first | (go_at_call 88; (with_reducible refine cO.mono ?_); rintro e w1 ⟨rfl, hb1⟩) | fail)
  go_ret2
  exact ⟨rfl, hb1⟩
end Go.Proofs.YtgpncnnlhhmjaaaGreatDoor
namespace Go.Proofs.YtgpncnnlhhmjaaaGreatDoor
open Go.RowKit

theorem cmpZ_eq (x y : Int) : cmpZ (decide (x < 0)) x.natAbs (decide (y < 0)) y.natAbs = cmpI x y := by
  unfold cmpZ cmpI
  by_cases hx : x < 0 <;> by_cases hy : y < 0 <;> simp only [hx, hy, decide_true, decide_false, if_true, if_false, Bool.false_eq_true]
  · split <;> split <;> (try split) <;> (try split) <;> omega
  · rw [if_pos (by omega)]
  · rw [if_neg (by omega), if_pos (by omega)]
  · split <;> split <;> (try split) <;> (try split) <;> omega

set_option maxRecDepth 100000 in
set_option maxHeartbeats 4000000 in
theorem Compare_any (a b : ByteArray) (w : World) :
    Calls Tryz.prog 51 #[.string a, .string b] w fun e w' => e = .returned (.int .i64 (cmpS a b)) ∧ Below w.heap.size w w' := by
  have cB := fun W => both_any a b W
  cases hv : both a b
  · have e1 : cmpS a b = 0 := by rw [cmpS, hv]; rfl
    rw [e1]
    rw [hv] at cB
    have CB := Lib.hid cB
    clear hv e1 cB
    go_enter Tryz.func51, Tryz.ntmps51
    go_wp2_with (first
      | (go_at_call 73; (with_reducible refine (CB.out _).mono ?_); rintro e w1 ⟨A1, L1, c1, A2, L2, c2, rfl, hN1, hN2, hb1⟩)
      | fail)
    go_ret
    exact ⟨rfl, below_step (below_step hb1 (below_alloc _ _)) (below_alloc _ _)⟩
  · obtain ⟨va, vb⟩ := both_and hv
    have e1 : cmpS a b = cmpZ (sgB a) (szB a) (sgB b) (szB b) := by rw [cmpS, hv, sg_ok va, sg_ok vb, sz_ok va, sz_ok vb, cmpZ_eq]; rfl
    rw [e1]
    rw [hv] at cB
    have cO := fun (A1 A2 : Option Addr) (L1 c1 L2 c2 : Nat) W (h1 : Nt W W.heap.size A1 L1 c1 (szB a)) (h2 : Nt W W.heap.size A2 L2 c2 (szB b)) => ncompare_any (sgB a) (sgB b) A1 A2 L1 c1 (szB a) L2 c2 (szB b) (Nat.le_trans (nt_300 h1) (by decide)) (Nat.le_trans (nt_300 h2) (by decide)) W h1 h2
    obtain ⟨R, hR⟩ : ∃ R, R = cmpZ (sgB a) (szB a) (sgB b) (szB b) := ⟨_, rfl⟩
    rw [← hR] at cO ⊢
    have CB := Lib.hid cB; have CO := Lib.hid cO
    clear hv e1 cB cO va vb hR
    go_enter Tryz.func51, Tryz.ntmps51
    go_wp2_with (first
      | (go_at_call 73; (with_reducible refine (CB.out _).mono ?_); rintro e w1 ⟨A1, L1, c1, A2, L2, c2, rfl, hN1, hN2, hb1⟩; have hb1a := below_step (below_step hb1 (below_alloc w1 (.cells #[.bool (sgB a), .slice A1 L1 c1] 91))) (below_alloc _ (.cells #[.bool (sgB b), .slice A2 L2 c2] 91)))
      | (go_at_call 77; (with_reducible refine (CO.out _ _ _ _ _ _ _ ((hN1.kept (below_alloc _ _)).kept (below_alloc _ _)) ((hN2.kept (below_alloc _ _)).kept (below_alloc _ _))).mono ?_); rintro e w2 ⟨rfl, hb2⟩)
      | fail)
    go_ret
    exact ⟨rfl, below_step hb1a hb2⟩

set_option maxRecDepth 100000 in
set_option maxHeartbeats 4000000 in
theorem FromInt_any (n : Int) (h0 : -9223372036854775808 ≤ n) (h1 : n ≤ 9223372036854775807) (w : World) (ht : Tab w) :
    Calls Tryz.prog 61 #[.int .i64 n] w fun e w' => e = .returned (.string (dec n)) ∧ Below w.heap.size w w' := by
  have cI := itoa_any n h0 h1 w ht
  clear ht h0 h1
  go_enter Tryz.func61, Tryz.ntmps61
  go_wp2_with (first | (go_at_call 90; (with_reducible refine cI.mono ?_); rintro e w1 ⟨rfl, hb1⟩) | fail)
  go_ret
  exact ⟨rfl, hb1⟩

/-- The quotient and the remainder as strings. -/
def divOk (a b : ByteArray) : Bool := both a b && decide (numB b ≠ 0)
def divQ (a b : ByteArray) : ByteArray := if divOk a b then dec (numB a / numB b) else ByteArray.empty
def divR (a b : ByteArray) : ByteArray := if divOk a b then dec (numB a % numB b) else ByteArray.empty
def divE (a b : ByteArray) : Int := if divOk a b then 0 else 30
theorem div_bounds (x y : Int) (hy : y ≠ 0) (k : Nat) (hx : x.natAbs < 10000 ^ k) (hyk : y.natAbs < 10000 ^ k) : (x / y).natAbs < 10000 ^ (k + 1) ∧ (x % y).natAbs < 10000 ^ (k + 1) := by
  have hm0 := Int.emod_nonneg x hy
  have hm1 : x % y < y.natAbs := Int.emod_lt x hy
  have hd := Int.mul_ediv_add_emod x y
  have e : 10000 ^ (k + 1) = 10000 ^ k * 10000 := Nat.pow_succ _ _
  have hp : 0 < 10000 ^ k := Nat.pow_pos (by decide)
  generalize 10000 ^ k = P at *
  refine ⟨?_, by omega⟩
  have h1 : (y * (x / y)).natAbs = y.natAbs * (x / y).natAbs := Int.natAbs_mul _ _
  have h2 : (x / y).natAbs ≤ y.natAbs * (x / y).natAbs := Nat.le_mul_of_pos_left _ (by omega)
  have h3 : (y * (x / y)).natAbs ≤ x.natAbs + y.natAbs := by omega
  omega

set_option maxRecDepth 100000 in
set_option maxHeartbeats 8000000 in
theorem Div_any (a b : ByteArray) (w : World) (ht : Tab w) :
    Calls Tryz.prog 50 #[.string a, .string b] w fun e w' => e = .returned (.tuple #[.string (divQ a b), .string (divR a b), .int .i64 (divE a b)]) ∧ Below w.heap.size w w' := by
  have cB := fun W => both_any a b W
  have cZ := fun (A2 : Option Addr) (L2 c2 : Nat) W (h2 : Nt W W.heap.size A2 L2 c2 (szB b)) => isZero_any (sgB b) A2 L2 c2 (szB b) W h2
  cases hv : both a b
  · have e0 : divOk a b = false := by rw [divOk, hv]; rfl
    have e1 : divQ a b = ByteArray.empty := by rw [divQ, e0]; rfl
    have e2 : divR a b = ByteArray.empty := by rw [divR, e0]; rfl
    have e3 : divE a b = 30 := by rw [divE, e0]; rfl
    rw [e1, e2, e3]
    rw [hv] at cB
    have CB := Lib.hid cB
    clear hv e1 e2 e3 e0 cB cZ ht
    go_enter Tryz.func50, Tryz.ntmps50
    go_wp2_with (first
      | (go_at_call 73; (with_reducible refine (CB.out _).mono ?_); rintro e w1 ⟨A1, L1, c1, A2, L2, c2, rfl, hN1, hN2, hb1⟩)
      | fail)
    go_ret3
    exact ⟨rfl, below_step (below_step hb1 (below_alloc _ _)) (below_alloc _ _)⟩
  · obtain ⟨va, vb⟩ := both_and hv
    rw [hv] at cB
    by_cases hz : numB b = 0
    · have e0 : divOk a b = false := by rw [divOk, hv, decide_eq_false (by simpa using hz)]; rfl
      have e1 : divQ a b = ByteArray.empty := by rw [divQ, e0]; rfl
      have e2 : divR a b = ByteArray.empty := by rw [divR, e0]; rfl
      have e3 : divE a b = 30 := by rw [divE, e0]; rfl
      have e4 : decide (szB b = 0) = true := by rw [sz_ok vb, hz]; rfl
      rw [e1, e2, e3]
      rw [e4] at cZ
      have CB := Lib.hid cB; have CZ := Lib.hid cZ
      clear hv e1 e2 e3 e0 cB cZ ht e4 va vb
      go_enter Tryz.func50, Tryz.ntmps50
      go_wp2_with (first
        | (go_at_call 73; (with_reducible refine (CB.out _).mono ?_); rintro e w1 ⟨A1, L1, c1, A2, L2, c2, rfl, hN1, hN2, hb1⟩)
        | (go_at_call 74; (with_reducible refine (CZ.out _ _ _ _ ((hN2.kept (below_alloc _ _)).kept (below_alloc _ _))).mono ?_); rintro e w2 ⟨rfl, hb2⟩)
        | fail)
      go_ret3
      exact ⟨rfl, below_step (below_step (below_step hb1 (below_alloc _ _)) (below_alloc _ _)) hb2⟩
    · have e0 : divOk a b = true := by rw [divOk, hv, decide_eq_true (by simpa using hz)]; rfl
      have e1 : divQ a b = dec (numB a / numB b) := by rw [divQ, e0]; rfl
      have e2 : divR a b = dec (numB a % numB b) := by rw [divR, e0]; rfl
      have e3 : divE a b = 0 := by rw [divE, e0]; rfl
      have e4 : decide (szB b = 0) = false := by rw [sz_ok vb, decide_eq_false]; omega
      have hbd := div_bounds (numB a) (numB b) hz 50 (num_small a va) (num_small b vb)
      have cO := fun (A1 A2 : Option Addr) (L1 c1 L2 c2 : Nat) W (h1 : Nt W W.heap.size A1 L1 c1 (szB a)) (h2 : Nt W W.heap.size A2 L2 c2 (szB b)) => by
        have m1 := nt_300 h1
        have m2 := nt_300 h2
        rw [sz_ok va] at h1
        rw [sz_ok vb] at h2
        have hc := ndivide_any (numB a) (numB b) hz A1 A2 L1 c1 L2 c2 m1 m2 W h1 h2
        rw [← sg_ok va, ← sg_ok vb] at hc
        exact hc
      rw [e1, e2, e3]
      rw [e4] at cZ
      obtain ⟨q, hq⟩ : ∃ q, q = numB a / numB b := ⟨_, rfl⟩
      obtain ⟨r, hr⟩ : ∃ r, r = numB a % numB b := ⟨_, rfl⟩
      rw [← hq, ← hr] at cO hbd ⊢
      have cTq := fun (A : Option Addr) (L c : Nat) (m : L ≤ 900) W (h : Nt W W.heap.size A L c q.natAbs) (ht : Tab W) => ntext_at q A L c m W h ht
      have cTr := fun (A : Option Addr) (L c : Nat) (m : L ≤ 900) W (h : Nt W W.heap.size A L c r.natAbs) (ht : Tab W) => ntext_at r A L c m W h ht
      have hlq : ∀ (W : World) (B : Nat) (A : Option Addr) (L c : Nat), Nt W B A L c q.natAbs → L ≤ 900 := fun W B A L c h => Nat.le_trans (nt_50 h hbd.1) (by decide)
      have hlr : ∀ (W : World) (B : Nat) (A : Option Addr) (L c : Nat), Nt W B A L c r.natAbs → L ≤ 900 := fun W B A L c h => Nat.le_trans (nt_50 h hbd.2) (by decide)
      obtain ⟨sq, hsq⟩ : ∃ s, s = decide (q < 0) := ⟨_, rfl⟩
      obtain ⟨sr, hsr⟩ : ∃ s, s = decide (r < 0) := ⟨_, rfl⟩
      rw [← hsq] at cO cTq
      rw [← hsr] at cO cTr
      have CB := Lib.hid cB; have CZ := Lib.hid cZ; have CO := Lib.hid cO; have CTQ := Lib.hid cTq; have CTR := Lib.hid cTr; have HLQ := Lib.hid hlq; have HLR := Lib.hid hlr; have HT := Lib.hid ht
      clear hv e1 e2 e3 e0 cB cZ ht e4 va vb cO cTq cTr hq hr hlq hlr hbd hsq hsr hz
      go_enter Tryz.func50, Tryz.ntmps50
      go_wp2_with (first
        | (go_at_call 73; (with_reducible refine (CB.out _).mono ?_); rintro e w1 ⟨A1, L1, c1, A2, L2, c2, rfl, hN1, hN2, hb1⟩; have hb1a := below_step (below_step hb1 (below_alloc w1 (.cells #[.bool (sgB a), .slice A1 L1 c1] 91))) (below_alloc _ (.cells #[.bool (sgB b), .slice A2 L2 c2] 91)))
        | (go_at_call 74; (with_reducible refine (CZ.out _ _ _ _ ((hN2.kept (below_alloc _ _)).kept (below_alloc _ _))).mono ?_); rintro e w2 ⟨rfl, hb2⟩; have q7 := ((Row.made w1 91 #[.bool (sgB a), .slice A1 L1 c1]).later (.cells #[.bool (sgB b), .slice A2 L2 c2] 91)).below hb2 (by simp; omega); have q8 := (Row.made_at (w1.alloc (.cells #[.bool (sgB a), .slice A1 L1 c1] 91)) 91 #[.bool (sgB b), .slice A2 L2 c2] (g := w1.heap.size + 1) (by simp)).below hb2 (by simp); obtain ⟨k70, k71, _, _⟩ := two_cells q7; obtain ⟨k80, k81, _, _⟩ := two_cells q8; have hM1 := ((hN1.kept (below_alloc _ _)).kept (below_alloc _ _)).kept hb2; have hM2 := ((hN2.kept (below_alloc _ _)).kept (below_alloc _ _)).kept hb2; have hb2a := below_step hb1a hb2; clear q7 q8)
        | (go_at_call 75; (with_reducible refine (CO.out _ _ _ _ _ _ _ hM1 hM2).mono ?_); rintro e w3 ⟨A3, L3, c3, A4, L4, c4, rfl, hN3, hN4, hb3⟩)
        | fail)
      obtain ⟨W5, hW5⟩ : ∃ W5, W5 = (w3.alloc (.cells #[.bool sq, .slice A3 L3 c3] 91)).alloc (.cells #[.bool sr, .slice A4 L4 c4] 91) := ⟨_, rfl⟩
      have q10 : Row W5 w3.heap.size 91 #[.bool sq, .slice A3 L3 c3] := by rw [hW5]; exact (Row.made _ _ _).later _
      have q11 : Row W5 (w3.heap.size + 1) 91 #[.bool sr, .slice A4 L4 c4] := by rw [hW5]; exact Row.made_at _ _ _ (by simp)
      have hM3 : Nt W5 W5.heap.size A3 L3 c3 q.natAbs := by rw [hW5]; exact (hN3.kept (below_alloc _ _)).kept (below_alloc _ _)
      have hM4 : Nt W5 W5.heap.size A4 L4 c4 r.natAbs := by rw [hW5]; exact (hN4.kept (below_alloc _ _)).kept (below_alloc _ _)
      have hb5 : Below w.heap.size w W5 := by rw [hW5]; exact below_step (below_step (below_step hb2a hb3) (below_alloc _ _)) (below_alloc _ _)
      have l3 := HLQ.out _ _ _ _ _ hN3
      have l4 := HLR.out _ _ _ _ _ hN4
      rw [← hW5]
      have both5 : ∀ W, Below W5.heap.size W5 W → (Below W5.heap.size W5 W ∧ W.cell? ⟨w3.heap.size, 0, none⟩ = some (.bool sq) ∧ W.cell? ⟨w3.heap.size, 1, none⟩ = some (.slice A3 L3 c3) ∧ W.cell? ⟨w3.heap.size + 1, 0, none⟩ = some (.bool sr) ∧ W.cell? ⟨w3.heap.size + 1, 1, none⟩ = some (.slice A4 L4 c4)) := fun W hb =>
        ⟨hb, (q10.below hb q10.inside).at rfl, (q10.below hb q10.inside).at rfl, (q11.below hb q11.inside).at rfl, (q11.below hb q11.inside).at rfl⟩
      have BOTH := Lib.hid both5
      have HB5 := Lib.hid hb5; have HM3 := Lib.hid hM3; have HM4 := Lib.hid hM4
      clear both5 hb5 hM3 hM4 q10 q11 hW5 hN1 hN2 hM1 hM2 hN3 hN4 hb1 hb1a hb2 hb2a hb3 k70 k71 k80 k81
      go_region_held3 (fun W => Below W5.heap.size W5 W ∧ W.cell? ⟨w3.heap.size, 0, none⟩ = some (.bool sq) ∧ W.cell? ⟨w3.heap.size, 1, none⟩ = some (.slice A3 L3 c3) ∧ W.cell? ⟨w3.heap.size + 1, 0, none⟩ = some (.bool sr) ∧ W.cell? ⟨w3.heap.size + 1, 1, none⟩ = some (.slice A4 L4 c4))
        (first | assumption | exact BOTH.out _ (Below.refl _ _).drew | exact BOTH.out _ (below_step (And.left (by assumption)) (by assumption)) | exact BOTH.out _ ((And.left (by assumption)).drew))
        (first
          | (go_at_call 76; ((with_reducible refine (CTQ.out _ _ _ l3 _ (HM3.out.kept (And.left (by assumption))) ((HT.out.below HB5.out).below (And.left (by assumption)))).mono ?_); rintro e w6 ⟨rfl, b6⟩))
          | (go_at_call 76; ((with_reducible refine (CTR.out _ _ _ l4 _ (HM4.out.kept (And.left (by assumption))) ((HT.out.below HB5.out).below (And.left (by assumption)))).mono ?_); rintro e w7 ⟨rfl, b7⟩)))
      all_goals go_wp2
      all_goals go_ret3
      all_goals exact ⟨rfl, below_step HB5.out (And.left (by assumption))⟩
end Go.Proofs.YtgpncnnlhhmjaaaGreatDoor
