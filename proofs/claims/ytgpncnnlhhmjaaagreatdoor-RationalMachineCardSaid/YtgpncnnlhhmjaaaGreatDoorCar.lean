/- carry: columns become groups; slices.IndexFunc for the first that is not 0. -/
import Derived.Test.YtgpncnnlhhmjaaaGreatDoorMem
namespace Go.Proofs.YtgpncnnlhhmjaaaGreatDoor
open Go.RowKit

theorem rem_range (s : Int) : -9999 ≤ s.tmod 10000 ∧ s.tmod 10000 ≤ 9999 := by
  rcases Int.le_total 0 s with h | h
  · rw [Int.tmod_eq_emod_of_nonneg h]; omega
  · obtain ⟨t, rfl⟩ : ∃ t, s = -t := ⟨-s, by omega⟩
    rw [Int.neg_tmod, Int.tmod_eq_emod_of_nonneg (by omega)]; omega
theorem rem_fix (s : Int) : (s.tmod 10000 < 0 → s.tmod 10000 + 10000 = s % 10000 ∧ s.tdiv 10000 - 1 = s / 10000) ∧ (0 ≤ s.tmod 10000 → s.tmod 10000 = s % 10000 ∧ s.tdiv 10000 = s / 10000) := by
  rcases Int.le_total 0 s with h | h
  · rw [Int.tmod_eq_emod_of_nonneg h, Int.tdiv_eq_ediv_of_nonneg h]; omega
  · obtain ⟨t, rfl⟩ : ∃ t, s = -t := ⟨-s, by omega⟩
    rw [Int.neg_tmod, Int.neg_tdiv, Int.tmod_eq_emod_of_nonneg (by omega), Int.tdiv_eq_ediv_of_nonneg (by omega)]; omega

set_option maxRecDepth 100000 in
set_option maxHeartbeats 1000000 in
theorem notzero_any (x : Int) (w : World) : Calls Tryz.prog 149 #[.int .i64 x] w fun e w' => e = .returned (.bool (x != 0)) ∧ w' = w := by
  go_enter Tryz.func149, Tryz.ntmps149
  go_wp2
  go_ret
  exact ⟨rfl, rfl⟩

/-- The place of the first column that is not 0, or -1. -/
def firstN (l : List Int) : Int := if zer l < l.length then (zer l : Int) else -1
theorem zer_drop (l : List Int) (j : Nat) (h : ∀ i, i < j → l[i]? = some 0) : (j ≤ zer l) := by
  induction l generalizing j with
  | nil =>
    rcases Nat.eq_zero_or_pos j with h0 | h0
    · omega
    · have := h 0 h0; simp at this
  | cons g r ih =>
    match j with
    | 0 => exact Nat.zero_le _
    | j + 1 =>
      have h0 := h 0 (by omega)
      simp only [List.getElem?_cons_zero, Option.some.injEq] at h0
      have := ih j (fun i hi => by have := h (i + 1) (by omega); simpa using this)
      simp only [zer, h0, if_true]
      omega
theorem zer_at (l : List Int) (j : Nat) (x : Int) (h : ∀ i, i < j → l[i]? = some 0) (hx : l[j]? = some x) (h0 : x ≠ 0) : zer l = j := by
  induction l generalizing j with
  | nil => simp at hx
  | cons g r ih =>
    match j with
    | 0 =>
      simp only [List.getElem?_cons_zero, Option.some.injEq] at hx
      simp [zer, hx, h0]
    | j + 1 =>
      have hg := h 0 (by omega)
      simp only [List.getElem?_cons_zero, Option.some.injEq] at hg
      have := ih j (fun i hi => by have := h (i + 1) (by omega); simpa using this) (by simpa using hx)
      simp [zer, hg, this]
theorem first_at (l : List Int) (j : Nat) (x : Int) (h : ∀ i, i < j → l[i]? = some 0) (hx : l[j]? = some x) (h0 : x ≠ 0) : firstN l = j := by
  have := zer_at l j x h hx h0
  have hj : j < l.length := by
    rcases Nat.lt_or_ge j l.length with h1 | h1
    · exact h1
    · rw [List.getElem?_eq_none h1] at hx; cases hx
  rw [firstN, this, if_pos hj]
theorem first_none (l : List Int) (h : ∀ i, i < l.length → l[i]? = some 0) : firstN l = -1 := by
  have := zer_drop l l.length h
  rw [firstN, if_neg (by omega)]

set_option maxRecDepth 100000 in
set_option maxHeartbeats 1000000 in
theorem idx_any (g n : Nat) (l : List Int) (hn : n = l.length) (hm : n ≤ 1000) (w : World) (hr : IRow w g l) :
    Calls Tryz.prog 148 #[.slice (some ⟨g, 0, none⟩) n n, .func (.func 149) #[] #[]] w fun e w' => e = .returned (.int .i64 (firstN l)) ∧ w' = w := by
  obtain ⟨F, hF⟩ : ∃ F, F = firstN l := ⟨_, rfl⟩
  rw [← hF]
  have HF := Lib.hid hF; have HN := Lib.hid hn; have HR := Lib.hid hr
  clear hF hn hr
  go_enter Tryz.func148, Tryz.ntmps148
  go_wp2
  go_loop [5, 8] (fun _ p => ∃ j : Nat, p = .int .i64 j ∧ j ≤ n ∧ Hid (∀ i, i < j → l[i]? = some 0)) (fun _ p => n - (intOf p).toNat)
  case atStart => exact ⟨0, rfl, by omega, Lib.hid (fun i hi => absurd hi (by omega))⟩
  case round =>
    obtain ⟨j, rfl, hj, HZ⟩ := hrel
    by_cases hlt : j < n
    · have hjl : j < l.length := by rw [← HN.out]; exact hlt
      obtain ⟨x, hx⟩ : ∃ x, l[j]? = some x := ⟨_, List.getElem?_eq_getElem hjl⟩
      have hc := HR.out.at hx
      have HX := Lib.hid hx
      clear hx hjl
      by_cases h0 : x = 0
      · subst h0
        go_wp2_with (first | (go_at_call 149; (with_reducible refine (notzero_any _ _).mono ?_); rintro e w' ⟨rfl, rfl⟩) | fail)
        go_round
        case rel =>
          refine ⟨j + 1, by go_num, by omega, Lib.hid (fun i hi => ?_)⟩
          rcases Nat.lt_or_ge i j with h1 | h1
          · exact HZ.out i h1
          · obtain rfl : i = j := by omega
            exact HX.out
        case measure => simp [intOf]; omega
      · have hb : (x != 0) = true := by simpa using h0
        have hf : (j : Int) = F := by rw [HF.out]; exact (first_at l j x HZ.out HX.out h0).symm
        have HF2 := Lib.hid hf
        clear hf
        go_wp2_with (first | (go_at_call 149; (with_reducible refine (notzero_any _ _).mono ?_); rintro e w' ⟨rfl, rfl⟩) | fail)
        go_ret
        exact ⟨by rw [HF2.out]; rfl, rfl⟩
    · obtain rfl : j = n := by omega
      have hf : F = -1 := by rw [HF.out]; exact first_none l (by rw [← HN.out]; exact HZ.out)
      have HF2 := Lib.hid hf
      go_wp2
      go_ret
      exact ⟨rfl, rfl⟩

set_option maxRecDepth 100000 in
set_option maxHeartbeats 4000000 in
theorem carry_any (g n : Nat) (cs : List Int) (hn : n = cs.length) (hm : n ≤ 1000) (hb : ∀ c ∈ cs, -1000000000 ≤ c ∧ c ≤ 1000000000) (h0 : 0 ≤ gv cs) (h1 : gv cs < 10000 ^ n) (w : World) (hr : IRow w g cs) :
    Calls Tryz.prog 130 #[.slice (some ⟨g, 0, none⟩) n n] w fun e w' => ∃ A L c, e = .returned (.slice A L c) ∧ Nt w' (g + 1) A L c (gv cs).toNat ∧ Below g w w' := by
  have HN := Lib.hid hn; have HR := Lib.hid hr; have HB := Lib.hid hb; have H0 := Lib.hid h0; have H1 := Lib.hid h1
  clear hn hr hb h0 h1
  go_enter Tryz.func130, Tryz.ntmps130
  go_wp2
  go_loopw [3, 4, 5] (fun k p _ wr => ∃ j : Nat, p = .int .i64 ((j : Int) - 1) ∧ k = .int .i64 (carL (cs.drop j)).2 ∧ j ≤ n ∧ IRow wr g (cs.take j ++ (carL (cs.drop j)).1) ∧ Below g w wr) (fun _ p _ _ => (intOf p + 1).toNat)
  case atStart =>
    refine ⟨n, rfl, ?_, Nat.le_refl _, ?_, Below.refl _ _⟩
    · rw [List.drop_of_length_le (by rw [HN.out]; exact Nat.le_refl _)]; rfl
    · rw [List.drop_of_length_le (by rw [HN.out]; exact Nat.le_refl _), List.take_of_length_le (by rw [HN.out]; exact Nat.le_refl _)]; simpa [carL] using HR.out
  case round =>
    obtain ⟨j, rfl, rfl, hj, hrow, hbr⟩ := hrel
    rcases Nat.eq_zero_or_pos j with hz | hp
    · subst hz
      rw [List.drop_zero, List.take_zero, List.nil_append] at hrow
      have hz := carL_zero cs H0.out (by rw [← HN.out]; exact H1.out)
      obtain ⟨D, hD⟩ : ∃ D, D = (carL cs).1 := ⟨_, rfl⟩
      have hgs : Gs D := by rw [hD]; exact carL_gs cs
      have hlen : n = D.length := by rw [hD, carL_len]; exact HN.out
      have hgv : gv D = gv cs := by rw [hD]; exact hz.2
      rw [← hD] at hrow
      have hgrp := grp_drop D hgs
      rw [hgv] at hgrp
      have hzl := zer_le D
      have hl2 : (D.drop (zer D)).length = n - zer D := by rw [List.length_drop, ← hlen]
      have HRW := Lib.hid hrow; have HBR := Lib.hid hbr; have HG := Lib.hid hgrp; have HL := Lib.hid hlen; have HL2 := Lib.hid hl2
      have hfn : firstN D = if zer D < n then (zer D : Int) else -1 := by rw [firstN, ← hlen]
      obtain ⟨z, hzz⟩ : ∃ z, z = zer D := ⟨_, rfl⟩
      rw [← hzz] at hfn hzl HG HL2
      have hzn : z ≤ n := by rw [hlen]; exact hzl
      have cI := idx_any g n D HL.out hm
      obtain ⟨F, hF⟩ : ∃ F, F = firstN D := ⟨_, rfl⟩
      rw [← hF] at cI hfn
      have HF := Lib.hid hF
      rcases Nat.lt_or_ge z n with hlt | hge
      · have hfz : F = (z : Int) := by rw [hfn, if_pos hlt]
        have e1 : (z : Int) ≤ (n : Int) := by omega
        have e0 : (0 : Int) ≤ (z : Int) := by omega
        have e2 : (decide ((z : Int) < 0)) = false := by simp
        subst hfz
        clear hz hD hgs hlen hgv hrow hgrp hl2 hfn hzz hF hzl hbr
        go_wp2_with (first | (go_at_call 148; (with_reducible refine (cI _ HRW.out).mono ?_); rintro e w' ⟨rfl, rfl⟩) | fail)
        go_ret
        refine ⟨some ⟨g, z, none⟩, n - z, n - z, rfl, ⟨by rw [← HG.out, HL2.out], Nat.le_refl _, by omega, ?_⟩, HBR.out⟩
        rw [← HG.out]
        exact ints_row HRW.out (by omega) z
      · have hfz : F = -1 := by rw [hfn, if_neg (by omega)]
        subst hfz
        clear hz hD hgs hlen hgv hrow hgrp hl2 hfn hzz hF hzl hbr
        go_wp2_with (first | (go_at_call 148; (with_reducible refine (cI _ HRW.out).mono ?_); rintro e w' ⟨rfl, rfl⟩) | fail)
        go_ret
        have hz0 : (gv cs).toNat = 0 := by
          rw [← grp_nil, ← HG.out]
          exact List.drop_of_length_le (by rw [← HL.out]; exact hge)
        rw [hz0]
        exact ⟨none, 0, 0, rfl, nt_zero _ _, HBR.out⟩
    · obtain ⟨i, rfl⟩ : ∃ i, j = i + 1 := ⟨j - 1, by omega⟩
      have hil : i < cs.length := by rw [← HN.out]; omega
      obtain ⟨x, hx⟩ : ∃ x, cs[i]? = some x := ⟨_, List.getElem?_eq_getElem hil⟩
      have hxb := HB.out x (List.mem_of_getElem? hx)
      have hkb := carL_bound (cs.drop (i + 1)) 1000000000 (by omega) (fun c hc => HB.out c (List.mem_of_mem_drop hc))
      have hdrop : cs.drop i = x :: cs.drop (i + 1) := by
        rw [List.drop_eq_getElem_cons hil]
        congr 1
        have := List.getElem?_eq_getElem hil
        rw [hx] at this; exact (Option.some.inj this).symm
      have hat : (cs.take (i + 1) ++ (carL (cs.drop (i + 1))).1)[i]? = some x := by
        rw [List.getElem?_append_left (by simp; omega), List.getElem?_take, if_pos (by omega)]; exact hx
      have hset : ∀ y, (cs.take (i + 1) ++ (carL (cs.drop (i + 1))).1).set i y = cs.take i ++ y :: (carL (cs.drop (i + 1))).1 := by
        intro y
        rw [List.set_append_left _ _ (by simp; omega)]
        have : (cs.take (i + 1)).set i y = cs.take i ++ [y] := by
          have hl : (cs.take i).length = i := by rw [List.length_take]; omega
          rw [List.take_add_one, hx, List.set_append_right _ _ (by omega), hl, Nat.sub_self]; rfl
        rw [this]; simp
      have hc := hrow.at hat
      obtain ⟨k, hk⟩ : ∃ k, k = (carL (cs.drop (i + 1))).2 := ⟨_, rfl⟩
      rw [← hk] at hkb ⊢
      obtain ⟨s, hs⟩ : ∃ s, s = x + k := ⟨_, rfl⟩
      have es : IntKind.i64.wrap (x + k) = s := by rw [IntWalk.i64_in _ (by omega)]; omega
      have hi1 : (((i + 1 : Nat) : Int)) - 1 = (i : Int) := by omega
      rw [hi1]
      have hin : (i : Int) < (n : Int) := by omega
      have hi0 : (0 : Int) ≤ (i : Int) := by omega
      have hfix := rem_fix s
      have hrange := rem_range s
      have hff := hrow.frees i
      have HS := Lib.hid hs; have HK := Lib.hid hk; have HRW := Lib.hid hrow; have HBR := Lib.hid hbr; have HST := Lib.hid hset; have HD := Lib.hid hdrop
      obtain ⟨m, hmm⟩ : ∃ m, m = s.tmod 10000 := ⟨_, rfl⟩
      obtain ⟨q, hqq⟩ : ∃ q, q = s.tdiv 10000 := ⟨_, rfl⟩
      rw [← hmm] at hfix hrange
      rw [← hqq] at hfix
      have em : s.tmod 10000 = m := hmm.symm
      have eq : s.tdiv 10000 = q := hqq.symm
      have sb : -3000000000 ≤ s ∧ s ≤ 3000000000 := by omega
      have hqm : 10000 * q + m = s := by rw [← em, ← eq]; exact Int.mul_tdiv_add_tmod s 10000
      have qb : -400000 ≤ q ∧ q ≤ 400000 := by omega
      have wq : IntKind.i64.wrap q = q := by rw [IntWalk.i64_in _ (by omega)]
      have wq1 : IntKind.i64.wrap (q - 1) = q - 1 := by rw [IntWalk.i64_in _ (by omega)]
      clear hs hk hrow hbr hset hdrop hx hat hil hmm hqq hp hqm
      by_cases hneg : m < 0
      · have hf := hfix.1 hneg
        have HF := Lib.hid hf
        clear hfix hf
        go_wp2
        go_roundw
        case rel =>
          have hk : x + (carL (cs.drop (i + 1))).2 = s := by rw [← HK.out]; exact HS.out.symm
          refine ⟨i, rfl, ?_, by omega, ?_, (HBR.out.setCell (p := ⟨g, i, none⟩) (Nat.le_refl _) _).setCell (p := ⟨g, i, none⟩) (Nat.le_refl _) _⟩
          · rw [HD.out, carL, hk, ← HF.out.2]
          · rw [HD.out, carL, hk, ← HF.out.1, ← HST.out]
            have h2 := (HRW.out.stored i m).stored i (m + 10000)
            rw [List.set_set] at h2
            exact h2
        case measure => simp [intOf]
      · have hf := hfix.2 (by omega)
        have HF := Lib.hid hf
        clear hfix hf
        go_wp2
        go_roundw
        case rel =>
          have hk : x + (carL (cs.drop (i + 1))).2 = s := by rw [← HK.out]; exact HS.out.symm
          refine ⟨i, rfl, ?_, by omega, ?_, HBR.out.setCell (p := ⟨g, i, none⟩) (Nat.le_refl _) _⟩
          · rw [HD.out, carL, hk, ← HF.out.2]
          · rw [HD.out, carL, hk, ← HF.out.1, ← HST.out]
            exact HRW.out.stored i m
        case measure => simp [intOf]
end Go.Proofs.YtgpncnnlhhmjaaaGreatDoor
