/- divide: long division, a group at a time. -/
import Derived.Test.YtgpncnnlhhmjaaaGreatDoorMost
namespace Go.Proofs.YtgpncnnlhhmjaaaGreatDoor
open Go.RowKit

theorem preN_le (n j : Nat) : preN n j ≤ n := by
  have h1 := preN_int n j
  have h2 := gv_append ((grp n).take j) ((grp n).drop j)
  rw [List.take_append_drop, gv_grp] at h2
  have h3 := (gv_lt (l := (grp n).drop j) (fun g hg => gs_grp n g (List.mem_of_mem_drop hg))).1
  have h4 := pow_pos4 ((grp n).drop j).length
  have h5 : gv ((grp n).take j) * 1 ≤ gv ((grp n).take j) * 10000 ^ ((grp n).drop j).length := Int.mul_le_mul_of_nonneg_left (by omega) (by omega)
  generalize gv ((grp n).take j) * 10000 ^ ((grp n).drop j).length = P at *
  generalize gv ((grp n).drop j) = Q at *
  generalize gv ((grp n).take j) = R at *
  clear h4
  omega
/-- What stays of a natural's first groups. -/
theorem nt_take {w : World} {B : Nat} {A : Option Addr} {L c n k : Nat} (h : Nt w B A L c n) (hk : k ≤ L) : Nt w B A k c (preN n k) := by
  refine ⟨by rw [grp_pre, List.length_take, ← h.len]; omega, by have := h.cap; omega, h.top, ?_⟩
  rw [grp_pre]
  rcases h.ints with e | ⟨b, o, rfl, hB, hc⟩
  · left; rw [e]; simp
  · exact ints_take hB hc k
theorem div_start (n b L2 k : Nat) (hL : L2 = (grp b).length) (hb : 0 < b) (hk : k ≤ L2 - 1) : preN n k < b := by
  have h1 := preN_lt n k
  have hL0 : 0 < L2 := by rw [hL]; exact List.length_pos_iff.2 (grp_ne hb)
  have h2 : ¬ b < 10000 ^ (L2 - 1) := fun h => by
    have := (grp_len b (L2 - 1)).2 h
    omega
  have h3 : 10000 ^ k ≤ 10000 ^ (L2 - 1) := Nat.pow_le_pow_right (by decide) hk
  omega

theorem len_lt {s b L2 L : Nat} (hs : s < b * 10000) (hb : L2 = (grp b).length) (hL : L = (grp s).length) : L ≤ L2 + 1 := by
  rw [hL, grp_len, Nat.pow_succ]
  have h := (grp_len b L2).1 (by rw [hb]; exact Nat.le_refl _)
  generalize 10000 ^ L2 = P at *
  exact Nat.lt_trans hs (Nat.mul_lt_mul_of_pos_right h (by decide))
/-- One group of the quotient: takeMost with the divisor's multiples. -/
theorem tmdiv_any (A2 : Option Addr) (L2 c2 n2 : Nat) (m2 : L2 ≤ 300) (h0 : 0 < n2) (A : Option Addr) (L c s : Nat) (hs : s < n2 * 10000) (w : World) (h2 : Nt w w.heap.size A2 L2 c2 n2) (h : Nt w w.heap.size A L c s) :
    Calls Tryz.prog 126 #[.slice A L c, .func (.func 128) #[.slice A2 L2 c2] #[]] w fun e w' => ∃ A' L' c', e = .returned (.tuple #[.int .i64 ((s / n2 : Nat) : Int), .slice A' L' c']) ∧ Nt w' w'.heap.size A' L' c' (s % n2) ∧ Below w.heap.size w w' := by
  have hm := most_div n2 s h0 hs
  have hc := tm_scale A2 L2 c2 A L c s (fun g => n2 * g) (by have := len_lt hs h2.len h.len; omega) w h (fun a b hab _ => Nat.mul_le_mul_left _ hab) (by rw [hm]; exact Nat.mul_div_le s n2) (fun W hb g hg => (scale_any A2 L2 c2 n2 g (by omega) (by omega) W (h2.kept hb)).mono (fun e w' he => by
    obtain ⟨A', L', c', e1, e2, e3⟩ := he
    exact ⟨A', L', c', e1, e2, by have := len_mul e2.len h2.len (x := g) (by omega); omega, e3⟩))
  rw [hm] at hc
  refine hc.mono (fun e w' he => ?_)
  obtain ⟨A', L', c', e1, e2, e3⟩ := he
  refine ⟨A', L', c', e1, ?_, e3⟩
  have hmod : s - n2 * (s / n2) = s % n2 := by have := Nat.div_add_mod s n2; omega
  rw [← hmod]; exact e2

set_option maxRecDepth 100000 in
set_option maxHeartbeats 8000000 in
theorem divide_any (A1 A2 : Option Addr) (L1 c1 n1 L2 c2 n2 : Nat) (m1 : L1 ≤ 300) (m2 : L2 ≤ 300) (h0 : 0 < n2) (w : World) (h1 : Nt w w.heap.size A1 L1 c1 n1) (h2 : Nt w w.heap.size A2 L2 c2 n2) :
    Calls Tryz.prog 102 #[.slice A1 L1 c1, .slice A2 L2 c2] w fun e w' => ∃ Aq Lq cq Ar Lr cr, e = .returned (.tuple #[.slice Aq Lq cq, .slice Ar Lr cr]) ∧ Nt w' w'.heap.size Aq Lq cq (n1 / n2) ∧ Nt w' w'.heap.size Ar Lr cr (n1 % n2) ∧ Below w.heap.size w w' := by
  have hmf : ∀ (fn : Fn) (first cap : Array Value) (w : World), (Instr.makeFunc fn first cap).run Tryz.prog w = .ok (.func fn first cap) w := fun _ _ _ _ => rfl
  have hL2 : 0 < L2 := by rw [h2.len]; exact List.length_pos_iff.2 (grp_ne h0)
  obtain ⟨K, hK⟩ : ∃ K, K = min L1 (L2 - 1) := ⟨_, rfl⟩
  obtain ⟨D, hD⟩ : ∃ D, D = L2 - 1 := ⟨_, rfl⟩
  have eD : IntKind.i64.wrap ((L2 : Int) - 1) = (D : Int) := by rw [IntWalk.i64_in _ (by omega)]; omega
  have eD2 : ((L2 : Int) - 1) = (D : Int) := by omega
  have eK : ∀ (ts : Array TypeId) (t : TypeId) (W : World), (Builtin.min_ ts t #[.int .i64 (L1 : Int), .int .i64 (D : Int)]).run Tryz.prog W = .ok (.int .i64 (K : Int)) W := by
    intro ts t W
    rw [run_min_int2, show (if (D : Int) < (L1 : Int) then (D : Int) else (L1 : Int)) = (K : Int) by split <;> omega]
  have hK1 : K ≤ L1 := by omega
  have hK2 : K ≤ L2 - 1 := by omega
  have k0 : (0 : Int) ≤ (K : Int) := by omega
  have k1 : (K : Int) ≤ (L1 : Int) := by omega
  have hcap := h1.cap
  have k2 : (K : Int) ≤ (c1 : Int) := by omega
  have htop := h1.top
  have hst := div_start n1 n2 L2 K h2.len h0 hK2
  have HST := Lib.hid hst
  have H1 := Lib.hid h1; have H2 := Lib.hid h2
  have HT := Lib.hid (nt_take h1 hK1)
  have hfin : L1 - K = 0 → Nt w w.heap.size none 0 0 (n1 / n2) ∧ Nt w w.heap.size A1 K c1 (n1 % n2) := by
    intro hz
    have hKL : K = L1 := by omega
    have hpre : preN n1 K = n1 := preN_all (by rw [← h1.len]; omega)
    rw [hpre] at hst
    refine ⟨?_, ?_⟩
    · rw [Nat.div_eq_of_lt hst]; exact nt_zero _ _
    · rw [Nat.mod_eq_of_lt hst, hKL]; exact h1
  have HF := Lib.hid hfin
  clear hfin hst
  rcases h1.ints with hn | ⟨b, o, rfl, hbB, hcell⟩
  · have hz : L1 = 0 := by rw [h1.len, hn]; rfl
    have hz2 : K = 0 := by omega
    have hf := HF.out (by omega)
    subst hz hz2
    have HG := Lib.hid hf
    clear HF hf
    clear hK hD h1 h2 hK2 hn
    go_enter Tryz.func102, Tryz.ntmps102
    go_wp2
    all_goals (refine wp_loop_rounds 1 ?_; rw [rounds_succ])
    all_goals go_wp2
    all_goals go_ret2
    all_goals exact ⟨_, _, _, _, _, _, rfl, HG.out.1, HG.out.2.recap (by omega) (by omega), Below.refl _ _⟩
  · have hadd : (⟨b, o, none⟩ : Addr).add K = ⟨b, o + K, none⟩ := add_off b o K
    have HC := Lib.hid hcell
    clear hK hD h1 h2 hK2 hcell
    by_cases hz : L1 - K = 0
    · have HG := Lib.hid (HF.out hz)
      clear HF
      go_enter Tryz.func102, Tryz.ntmps102
      go_wp2
      all_goals (refine wp_loop_rounds 1 ?_; rw [rounds_succ])
      all_goals go_wp2
      all_goals go_ret2
      all_goals exact ⟨_, _, _, _, _, _, rfl, HG.out.1, HG.out.2.recap (by omega) (by omega), Below.refl _ _⟩
    · have hne : ¬ c1 = K := by omega
      obtain ⟨N, hN⟩ : ∃ N, N = L1 - K := ⟨_, rfl⟩
      have HN := Lib.hid hN
      have hN300 : N ≤ 300 := by omega
      go_enter Tryz.func102, Tryz.ntmps102
      go_wp2
      rw [← hN]
      clear hz hne hN HF
      go_loopw [7, 8, 10, 11, 25] (fun vq vr _ _ p wr => ∃ (j q r : Nat) (Aq : Option Addr) (Lq cq : Nat) (Ar : Option Addr) (Lr cr : Nat), p = .int .i64 j ∧ vq = .slice Aq Lq cq ∧ vr = .slice Ar Lr cr ∧ j ≤ N ∧ Nt wr wr.heap.size Aq Lq cq q ∧ Nt wr wr.heap.size Ar Lr cr r ∧
        Hid (preN n1 (K + j) = q * n2 + r ∧ r < n2) ∧ Below w.heap.size w wr) (fun _ _ _ _ p _ => N - (intOf p).toNat)
      case atStart => exact ⟨0, 0, preN n1 K, none, 0, 0, _, K, c1, rfl, rfl, rfl, by omega, nt_zero _ _, HT.out, Lib.hid ⟨by rw [Nat.add_zero, Nat.zero_mul, Nat.zero_add], HST.out⟩, Below.refl _ _⟩
      case round =>
        obtain ⟨j, q, r, Aq, Lq, cq, Ar, Lr, cr, rfl, rfl, rfl, hj, hNq, hNr, HV, hbr⟩ := hrel
        by_cases hlt : j < N
        · obtain ⟨x, hx, hx1⟩ := grp_nat (n := n1) (j := K + j) (by rw [← H1.out.len]; have := HN.out; omega)
          have hs := preN_succ hx
          have hcx0 := HC.out (K + j) x hx
          rw [← Nat.add_assoc] at hcx0
          have hcx := (hbr.cell (p := ⟨b, o + K + j, none⟩) hbB).trans hcx0
          clear hcx0
          have jl : (j : Int) < (N : Int) := by omega
          have hv := div_step n2 (preN n1 (K + j)) r x q h0 HV.out.2 HV.out.1 hx1
          obtain ⟨S, hS⟩ : ∃ S, S = r * 10000 + x := ⟨_, rfl⟩
          rw [← hS] at hv
          obtain ⟨Q, hQ⟩ : ∃ Q, Q = S / n2 := ⟨_, rfl⟩
          obtain ⟨T, hT⟩ : ∃ T, T = S % n2 := ⟨_, rfl⟩
          have hQ9 : Q < 10000 := by rw [hQ, Nat.div_lt_iff_lt_mul h0, Nat.mul_comm]; exact hv.1
          have hLr : Lr ≤ 900 := by
            have := nt_lt H2.out
            have h8 : Lr ≤ L2 := by
              rw [hNr.len, grp_len]
              have := HV.out.2
              omega
            omega
          have hLq : Lq ≤ 900 := by
            have h7 : q ≤ n1 := by
              have h6 : preN n1 (K + j) ≤ n1 := preN_le n1 (K + j)
              have h5 := HV.out.1
              have h4 : q ≤ q * n2 := Nat.le_mul_of_pos_right q h0
              omega
            have h8 : Lq ≤ L1 := by
              rw [hNq.len, grp_len]
              exact Nat.lt_of_le_of_lt h7 (nt_lt H1.out)
            omega
          have cE := extend_at Ar Lr cr r x S (x : Int) rfl hS hLr hx1 wr hNr
          have cT := fun (A : Option Addr) (L c : Nat) (W : World) (hb : Below w.heap.size w W) (h : Nt W W.heap.size A L c S) => tmdiv_any A2 L2 c2 n2 m2 h0 A L c S hv.1 W (H2.out.kept hb) h
          rw [← hQ, ← hT] at cT
          have cE2 := fun (W : World) (h : Nt W W.heap.size Aq Lq cq q) => extend_at Aq Lq cq q Q (q * 10000 + Q) (Q : Int) rfl rfl hLq hQ9 W h
          have hv' : preN n1 (K + (j + 1)) = (q * 10000 + Q) * n2 + T ∧ T < n2 := ⟨by rw [show K + (j + 1) = K + j + 1 by omega, hs, hv.2.1, ← hQ, ← hT], by rw [hT]; exact hv.2.2⟩
          have CE := Lib.hid cE; have CT := Lib.hid cT; have CE2 := Lib.hid cE2; have HV' := Lib.hid hv'; have HBR := Lib.hid hbr; have HNQ := Lib.hid hNq
          clear hx hs hv hS hQ hT cE cT cE2 hv' hLr hLq hbr hNq hNr
          go_wp2_with (first
            | (go_at_call 127; (with_reducible refine CE.out.mono ?_); rintro e w4 ⟨A4, L4, c4, rfl, hN4, hb4⟩)
            | (go_at_call 126; (with_reducible refine (CT.out _ _ _ _ (below_step HBR.out hb4) hN4).mono ?_); rintro e w5 ⟨A5, L5, c5, rfl, hN5, hb5⟩)
            | (go_at_call 127; (with_reducible refine (CE2.out _ ((HNQ.out.kept hb4).kept hb5)).mono ?_); rintro e w6 ⟨A6, L6, c6, rfl, hN6, hb6⟩)
            | fail)
          go_roundw
          case rel => exact ⟨j + 1, q * 10000 + Q, T, A6, L6, c6, A5, L5, c5, by go_num, rfl, rfl, by omega, hN6, hN5.kept hb6, HV', below_step (below_step (below_step HBR.out hb4) hb5) hb6⟩
          case measure => simp [intOf]; omega
        · obtain rfl : j = N := by omega
          have hv := HV.out
          rw [preN_all (by rw [← H1.out.len]; have := HN.out; omega)] at hv
          have hq : q = n1 / n2 := by rw [hv.1, Nat.mul_comm, Nat.mul_add_div h0, Nat.div_eq_of_lt hv.2, Nat.add_zero]
          have hr : r = n1 % n2 := by rw [hv.1, Nat.mul_comm, Nat.mul_add_mod, Nat.mod_eq_of_lt hv.2]
          rw [hq] at hNq
          rw [hr] at hNr
          have HNQ := Lib.hid hNq; have HNR := Lib.hid hNr; have HBR := Lib.hid hbr
          clear hv hq hr hNq hNr hbr
          go_wp2
          go_ret2
          exact ⟨Aq, Lq, cq, Ar, Lr, cr, rfl, HNQ.out, HNR.out, HBR.out⟩
end Go.Proofs.YtgpncnnlhhmjaaaGreatDoor
