/- The walk of ClockSound. -/
import Derived.Test.YtjhcdkllneeijaaLaw
namespace Go.Proofs.Ytjhcdkllneeijaa
open Go.RowKit

set_option maxRecDepth 100000 in
set_option maxHeartbeats 16000000 in
theorem sound_walk (drift start t0 other : Int) (rates : List Int) (RA : Option Addr) (rc : Nat) (l : List Rd) (LA : Option Addr) (lc : Nat) (b0 : In64 drift) (b1 : In64 start) (b2 : In64 t0) (b3 : In64 other) (hrr : ∀ r ∈ rates, In64 r) (hrn : rates.length ≤ 9223372036854775807)
    (hlr : ∀ r ∈ l, In64 r.1 ∧ In64 r.2.1 ∧ In64 r.2.2) (hln : l.length ≤ 9223372036854775807) (w : World) (hr : Nums w w.heap.size RA rates) (hl : Rds w w.heap.size LA l)
    (hsane : ∀ W : World, Calls Try.prog 10 #[] W fun e w' => e = .returned (.bool true) ∧ Below W.heap.size W w') :
    Calls Try.prog 4 #[.int .i64 drift, .int .i64 start, .slice RA rates.length rc, .slice LA l.length lc, .int .i64 t0, .int .i64 other] w fun e w' => e = .returned (.bool true) ∧ Below w.heap.size w w' := by
  have r1 := pk_range (c := drift) (n := 101) (by omega)
  have p1 := fun W => pick_any t0 5000 b2.1 b2.2 (by omega) (by omega) W
  have r2 := pk_range (c := t0) (n := 5000) (by omega)
  generalize pk t0 5000 = T at *
  have p2 := fun W => pick_any other 201 b3.1 b3.2 (by omega) (by omega) W
  have r3 := pk_range (c := other) (n := 201) (by omega)
  generalize pk other 201 = q at *
  have hm := fun (W : World) (hb : Below w.heap.size w W) => k_made drift start rates RA rc l LA lc b0 b1 hrr hrn hlr hln W (hr.deep hb) ((hl.below hb).more hb.size)
  have hs := fun (W : World) (hb : Below w.heap.size w W) => shown_any drift start T rates RA rc w.heap.size b0 b1 hrr hrn r2.1 (by omega) W (hr.below hb)
  obtain ⟨R, hR⟩ : ∃ R, R = rates.length := ⟨_, rfl⟩
  obtain ⟨L, hL⟩ : ∃ L, L = l.length := ⟨_, rfl⟩
  rw [← hR, ← hL] at hm
  rw [← hR] at hs
  rw [← hR, ← hL]
  obtain ⟨D, hD⟩ : ∃ D, D = pk drift 101 := ⟨_, rfl⟩
  rw [← hD] at hm hs r1
  obtain ⟨S, hS⟩ : ∃ S, S = shN D start rates T := ⟨_, rfl⟩
  rw [← hS] at hs
  have hsr := shN_range (start := start) r1.1 (show D ≤ 100 by omega) rates r2.1 (show T ≤ 5000 by omega)
  rw [← hS] at hsr
  have hfac := fun (rs : List Rd) (h : Mok D start rates rs) => snd_facts r1.1 (show D ≤ 100 by omega) h r2.1 r2.2
  rw [← hS] at hfac
  have hval := fun (rs : List Rd) (h : Mok D start rates rs) => h.valid r1.1 (show D ≤ 100 by omega)
  have P1 := Lib.hid p1; have P2 := Lib.hid p2; have HM := Lib.hid hm; have HSH := Lib.hid hs; have HS := Lib.hid hsane; have HF := Lib.hid hfac; have HV := Lib.hid hval
  obtain ⟨r1a, r1b⟩ := r1; obtain ⟨r2a, r2b⟩ := r2; obtain ⟨r3a, r3b⟩ := r3; obtain ⟨s1, s2⟩ := hsr; obtain ⟨o1, o2⟩ := b3
  clear p1 p2 hm hs hsane hfac hval hR hL hD hS hrr hlr hr hl b0 b1 b2 hrn hln
  go_enter Try.func4, Try.ntmps4
  go_upto_region 12 with (first
    | (go_at_call 10; (refine (HS.out _).mono ?_); rintro e w1 ⟨rfl, hb1⟩; have B1 := Lib.hid hb1; clear hb1)
    | (go_at_call 16; (refine (HM.out _ B1.out).mono ?_); rintro e w2 ⟨A, cap, N, rs, rfl, hN, hN12, hok, hrd, hb2⟩; obtain ⟨x, y, f, g, fa, fr, f1, f2, f3, f4, fb, fc⟩ := HF.out rs hok; have FV := Lib.hid (HV.out rs hok); have FA := Lib.hid fa; have FR := Lib.hid fr; have FB := Lib.hid fb; have FC := Lib.hid fc; have hn : N ≤ 9223372036854775807 := (by omega); have K3 := Lib.hid (Ck.box (d := D) (cap := cap) hrd hN _ rfl); have B3 := Lib.hid (keep_alloc (below_step B1.out hb2) (.cells #[.int .i64 D, .slice A N cap] 24)); obtain ⟨k0, k1, _, _⟩ := K3.out.eqs; clear hb2 hok hrd hN fa fr fb fc)
    | (go_at_call 19; (first | (with_reducible refine (P1.out _).mono ?_) | (with_reducible refine (P2.out _).mono ?_)); rintro e wx ⟨rfl, hwx⟩; have hwx := hwx.symm; subst hwx)
    | (go_at_call 28; (with_reducible refine (HSH.out _ B3.out).mono ?_); rintro e wx ⟨rfl, hwx⟩; have hwx := hwx.symm; subst hwx)
    | (go_at_call 20; (with_reducible refine (k_at hn FA.out K3.out).mono ?_); rintro e w4 ⟨rfl, hb4⟩; have K4 := Lib.hid (K3.out.step hb4); have B4 := Lib.hid (below_step B3.out hb4); obtain ⟨m0, m1, _, _⟩ := K4.out.eqs; clear hb4)
    | (go_at_call 22; (with_reducible refine (k_reads hn FR.out K4.out).mono ?_); rintro e w5 ⟨rfl, hb5⟩; have K5 := Lib.hid (K4.out.step hb5); have B5 := Lib.hid (below_step B4.out hb5); obtain ⟨n0, n1, _, _⟩ := K5.out.eqs; clear hb5)
    | (go_at_call 17; (with_reducible refine (k_valid hn FV.out K5.out).mono ?_); rintro e w6 ⟨rfl, hb6⟩; have K6 := Lib.hid (K5.out.step hb6); have B6 := Lib.hid (below_step B5.out hb6); obtain ⟨v0, v1, _, _⟩ := K6.out.eqs; clear hb6))
  obtain ⟨b1, e1, n1⟩ : ∃ b, beforeS D rs S other = b ∧ (b = true → ¬ other ≤ T) := ⟨_, FB.out other, fun h => by simp at h; omega⟩
  obtain ⟨b2, e2, n2⟩ : ∃ b, afterS D rs S other = b ∧ (b = true → ¬ T ≤ other) := ⟨_, FC.out other, fun h => by simp at h; omega⟩
  obtain ⟨b3, e3, n3⟩ : ∃ b, beforeS D rs S (T + q - 100) = b ∧ (b = true → ¬ T + q - 100 ≤ T) := ⟨_, FB.out _, fun h => by simp at h; omega⟩
  obtain ⟨b4, e4, n4⟩ : ∃ b, afterS D rs S (T + q - 100) = b ∧ (b = true → ¬ T ≤ T + q - 100) := ⟨_, FC.out _, fun h => by simp at h; omega⟩
  have E1 := Lib.hid e1; have E2 := Lib.hid e2; have E3 := Lib.hid e3; have E4 := Lib.hid e4
  clear e1 e2 e3 e4
  cases b1 <;> cases b2 <;> cases b3 <;> cases b4
  all_goals (
    have d1 := n1; have d2 := n2; have d3 := n3; have d4 := n4
    simp only [Bool.false_eq_true, false_implies, forall_const, true_implies] at n1 n2 n3 n4
    clear d1 d2 d3 d4
    go_wp2_with (first
      | (go_at_call 24; (first | ((with_reducible refine (k_before hn E1.out K6.out).mono ?_); rintro e w7 ⟨rfl, hb7⟩; have K7 := Lib.hid (K6.out.step hb7); have B7 := Lib.hid (below_step B6.out hb7); obtain ⟨j0, j1, _, _⟩ := K7.out.eqs; clear hb7) | ((with_reducible refine (k_before hn E3.out K8.out).mono ?_); rintro e w9 ⟨rfl, hb9⟩; have K9 := Lib.hid (K8.out.step hb9); have B9 := Lib.hid (below_step B8.out hb9); obtain ⟨j4, j5, _, _⟩ := K9.out.eqs; clear hb9)))
      | (go_at_call 26; (first | ((with_reducible refine (k_after hn E2.out K7.out).mono ?_); rintro e w8 ⟨rfl, hb8⟩; have K8 := Lib.hid (K7.out.step hb8); have B8 := Lib.hid (below_step B7.out hb8); obtain ⟨j2, j3, _, _⟩ := K8.out.eqs; clear hb8) | ((with_reducible refine (k_after hn E4.out K9.out).mono ?_); rintro e wa ⟨rfl, hba⟩; have Ba := Lib.hid (below_step B9.out hba); clear hba))))
    all_goals go_ret
    all_goals exact ⟨rfl, Ba.out⟩)
end Go.Proofs.Ytjhcdkllneeijaa
