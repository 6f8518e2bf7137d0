/- The reference's order: two lists of digits compared. -/
import Derived.Test.YtnehkoedmcnjoaaGreatDoorRtx
import Derived.Test.YtnehkoedmcnjoaaGreatDoorRmt
namespace Go.Proofs.YtnehkoedmcnjoaaGreatDoor
open Go.RowKit

theorem Dl.dig {w : World} {B b o L c n : Nat} (h : Dl w B (some ⟨b, o, none⟩) L c (dg n)) {J : Nat} (hJ : J < L) : w.cell? ⟨b, o + J, none⟩ = some (.int .i64 ((n / 10 ^ J % 10 : Nat) : Int)) := h.at (dg_at (by rw [← h.len]; exact hJ))
theorem dig9 (n J : Nat) : n / 10 ^ J % 10 < 10 := Nat.mod_lt _ (by decide)

set_option maxRecDepth 100000 in
set_option maxHeartbeats 4000000 in
theorem order_any (A1 A2 : Option Addr) (L1 c1 m L2 c2 n : Nat) (m1 : L1 ≤ 2000) (m2 : L2 ≤ 2000) (w : World) (h1 : Dl w w.heap.size A1 L1 c1 (dg m)) (h2 : Dl w w.heap.size A2 L2 c2 (dg n)) :
    Calls Tryz.prog 47 #[.slice A1 L1 c1, .slice A2 L2 c2] w fun e w' => e = .returned (.int .i64 (ordN m n)) ∧ Below w.heap.size w w' := by
  have e1 := h1.len; have e2 := h2.len
  rcases Nat.lt_trichotomy L1 L2 with h | h | h
  · rw [ord_lt (dlen_lt (by omega))]
    have q1 : ((L1 : Int) == (L2 : Int)) = false := by rw [beq_eq_false_iff_ne]; omega
    have q2 : ((L1 : Int) != (L2 : Int)) = true := by rw [bne, q1]; rfl
    have q3 : (L1 : Int) < (L2 : Int) := by omega
    clear e1 e2 h1 h2 h
    go_enter Tryz.func47, Tryz.ntmps47
    go_wp2
    go_ret
    exact ⟨rfl, Below.refl _ _⟩
  · subst h
    obtain ⟨R, hR⟩ : ∃ R, R = ordN m n := ⟨_, rfl⟩
    rw [← hR]
    have cap1 := h1.cap; have top1 := h1.top; have cap2 := h2.cap; have top2 := h2.top
    have H1 := Lib.hid h1; have H2 := Lib.hid h2; have HR := Lib.hid hR; have E1 := Lib.hid e1
    have q1 : ((L1 : Int) == (L1 : Int)) = true := by simp
    have q2 : ((L1 : Int) != (L1 : Int)) = false := by simp
    obtain ⟨Z0, hZ0, z5, z6, z7⟩ := less_facts L1 (by omega)
    have HZ0 := Lib.hid hZ0
    clear e1 e2 h1 h2 hR hZ0
    go_enter Tryz.func47, Tryz.ntmps47
    go_wp2
    clear z5 z6 z7
    go_loopw [5] (fun p wr => ∃ (k : Nat) (z : Int), p = .int .i64 z ∧ z + 1 = (k : Int) ∧ k ≤ L1 ∧ Hid (m / 10 ^ k = n / 10 ^ k) ∧ Below w.heap.size w wr) (fun p _ => (intOf p + 1).toNat)
    case atStart =>
      refine ⟨L1, Z0, rfl, by rw [HZ0.out]; omega, Nat.le_refl _, Lib.hid ?_, Below.refl _ _⟩
      have a1 := dg_in m L1; have a2 := dg_in n L1
      have b1 := H1.out.len; have b2 := H2.out.len
      generalize m / 10 ^ L1 = p at *
      generalize n / 10 ^ L1 = q at *
      omega
    case round =>
      obtain ⟨k, z, rfl, hz, hk, HV, hbr⟩ := hrel
      by_cases hk0 : k = 0
      · subst hk0
        obtain rfl : z = -1 := by omega
        have hv := HV.out
        rw [Nat.pow_zero, Nat.div_one, Nat.div_one] at hv
        have hr := HR.out
        rw [ord_eq hv] at hr
        subst hr
        have HBR := Lib.hid hbr
        clear hbr hv
        go_wp2
        go_ret
        exact ⟨rfl, HBR.out⟩
      · obtain ⟨J, rfl⟩ : ∃ J, k = J + 1 := ⟨k - 1, by omega⟩
        obtain rfl : z = (J : Int) := by omega
        obtain ⟨b1, o1, rfl, hb1⟩ := H1.out.form (by omega)
        obtain ⟨b2, o2, rfl, hb2⟩ := H2.out.form (by omega)
        have k1 := (H1.out.below hbr).dig (J := J) (by omega)
        have k2 := (H2.out.below hbr).dig (J := J) (by omega)
        have t1 := fun h => top_lt (m := m) (n := n) (J := J) HV.out h
        have t2 := fun h => top_lt (m := n) (n := m) (J := J) HV.out.symm h
        have t3 := fun h => top_eq (m := m) (n := n) (J := J) HV.out h
        generalize m / 10 ^ J % 10 = x at k1 t1 t2 t3
        generalize n / 10 ^ J % 10 = y at k2 t1 t2 t3
        have j0 : (0 : Int) ≤ (J : Int) := by omega
        have j1 : (J : Int) < (L1 : Int) := by omega
        obtain ⟨Z, hZ, a5, a6, a7⟩ := less_facts J (by omega)
        have HZ := Lib.hid hZ; have HBR := Lib.hid hbr
        rcases Nat.lt_trichotomy x y with h | h | h
        · have hr := HR.out
          rw [ord_lt (t1 h)] at hr
          subst hr
          have q1 : ((x : Int) == (y : Int)) = false := by rw [beq_eq_false_iff_ne]; omega
          have q2 : ((x : Int) != (y : Int)) = true := by rw [bne, q1]; rfl
          have q3 : (x : Int) < (y : Int) := by omega
          clear hbr t1 t2 t3 h hz hZ
          go_wp2
          go_quiet (fail)
          go_wp2
          go_quiet (fail)
          go_wp2
          go_ret
          exact ⟨rfl, below_drawnN (below_drawnN HBR.out _) _⟩
        · subst h
          have q1 : ((x : Int) == (x : Int)) = true := by simp
          have q2 : ((x : Int) != (x : Int)) = false := by simp
          have HV2 := Lib.hid (t3 rfl)
          clear hbr t1 t2 t3 hz hZ
          go_wp2
          go_quiet (fail)
          go_wp2
          clear a5 a6 a7
          go_roundw
          case rel => exact ⟨J, Z, rfl, by rw [HZ.out]; omega, by omega, HV2, below_drawnN HBR.out _⟩
          case measure => rw [intOf, intOf, HZ.out]; omega
        · have hr := HR.out
          rw [ord_gt (t2 h)] at hr
          subst hr
          have q1 : ((x : Int) == (y : Int)) = false := by rw [beq_eq_false_iff_ne]; omega
          have q2 : ((x : Int) != (y : Int)) = true := by rw [bne, q1]; rfl
          have q3 : ¬ (x : Int) < (y : Int) := by omega
          clear hbr t1 t2 t3 h hz hZ
          go_wp2
          go_quiet (fail)
          go_wp2
          go_quiet (fail)
          go_wp2
          go_ret
          exact ⟨rfl, below_drawnN (below_drawnN HBR.out _) _⟩
  · rw [ord_gt (dlen_lt (by omega))]
    have q1 : ((L1 : Int) == (L2 : Int)) = false := by rw [beq_eq_false_iff_ne]; omega
    have q2 : ((L1 : Int) != (L2 : Int)) = true := by rw [bne, q1]; rfl
    have q3 : ¬ (L1 : Int) < (L2 : Int) := by omega
    clear e1 e2 h1 h2 h
    go_enter Tryz.func47, Tryz.ntmps47
    go_wp2
    go_ret
    exact ⟨rfl, Below.refl _ _⟩
end Go.Proofs.YtnehkoedmcnjoaaGreatDoor
