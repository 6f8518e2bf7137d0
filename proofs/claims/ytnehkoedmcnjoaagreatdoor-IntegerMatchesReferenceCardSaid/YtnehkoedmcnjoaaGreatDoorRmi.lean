/- The reference's minus. -/
import Derived.Test.YtnehkoedmcnjoaaGreatDoorRpl
namespace Go.Proofs.YtnehkoedmcnjoaaGreatDoor
open Go.RowKit

set_option maxRecDepth 100000 in
set_option maxHeartbeats 8000000 in
theorem rminus_any (A1 A2 : Option Addr) (L1 c1 m L2 c2 n : Nat) (hmn : n ≤ m) (m1 : L1 ≤ 2000) (m2 : L2 ≤ 2000) (w : World) (h1 : Dl w w.heap.size A1 L1 c1 (dg m)) (h2 : Dl w w.heap.size A2 L2 c2 (dg n)) :
    Calls Tryz.prog 42 #[.slice A1 L1 c1, .slice A2 L2 c2] w fun e w' => ∃ A L c, e = .returned (.slice A L c) ∧ Dl w' w'.heap.size A L c (dg (m - n)) ∧ Far w.heap.size A ∧ Below w.heap.size w w' := by
  obtain ⟨i0, hi, hz0, hz1, hz2⟩ := info_parts int_info
  have cap1 := h1.cap; have top1 := h1.top; have cap2 := h2.cap; have top2 := h2.top
  have H1 := Lib.hid h1; have H2 := Lib.hid h2; have HMN := Lib.hid hmn
  clear h1 h2 hmn
  go_enter Tryz.func42, Tryz.ntmps42
  go_wp2
  go_loopw [5, 6, 7] (fun v vc p wr => ∃ (i c : Nat) (C : Int) (l : List Nat), p = .int .i64 i ∧ vc = .int .i64 C ∧ C = (c : Int) ∧ i ≤ L1 ∧ i = l.length ∧ Hid (MinusAt m n i c l) ∧ wr.ownsRow w.heap.size 3 1 v i (iV (zs l)) ∧ Below w.heap.size w wr) (fun _ _ p _ => L1 - (intOf p).toNat)
  case atStart => exact ⟨0, 0, 0, [], rfl, rfl, rfl, by omega, rfl, Lib.hid (minus_start HMN.out), World.ownsRow_nil _ _ _ _, Below.refl _ _⟩
  case round =>
    obtain ⟨i, c, C, l, rfl, rfl, hC, hi1, hl, HP, hrow, hbr⟩ := hrel
    have HR := Lib.hid hrow; have HL := Lib.hid hl; have HBR := Lib.hid hbr; have HC := Lib.hid hC
    have hc1 := HP.out.2.2.1
    have mx1 : i + 1 ≤ maxLen := by unfold maxLen; omega
    have mx2 : (i + 1) * 8 ≤ 140737488355328 := by omega
    by_cases h1 : i < L1
    · have j1 : (i : Int) < (L1 : Int) := by omega
      have i0n : (0 : Int) ≤ (i : Int) := by omega
      obtain ⟨b1, o1, rfl, hb1⟩ := H1.out.form (by omega)
      have k1 := (H1.out.below hbr).dig (J := i) (by omega)
      have x9 := dig9 m i; have y9 := dig9 n i
      have st := fun d b' h h9 hb => minus_step HP.out (d := d) (b' := b') h h9 hb
      have y0 := fun h => dl_zero H2.out (i := i) h
      have k2 := fun b2 o2 (h : A2 = some ⟨b2, o2, none⟩) (hi : i < L2) => ((show Dl w w.heap.size (some ⟨b2, o2, none⟩) L2 c2 (dg n) by rw [← h]; exact H2.out).below hbr).dig hi
      have y1 : L2 ≤ i → n / 10 ^ i % 10 = 0 := fun h => by rw [y0 h]
      clear y0
      generalize m / 10 ^ i % 10 = x at k1 st x9
      generalize n / 10 ^ i % 10 = y at k2 st y9 y1
      obtain ⟨D1, hD1⟩ : ∃ D1 : Int, D1 = (x : Int) - C := ⟨_, rfl⟩
      have a1 : IntKind.i64.wrap ((x : Int) - C) = D1 := by rw [← hD1]; exact i64_in _ (by omega) (by omega)
      have a2 : wrap64 D1 = D1 := w64_in _ (by omega) (by omega)
      by_cases h2 : i < L2
      · by_cases h3 : (x : Int) - C - (y : Int) < 0
        · skip
          have j2 : (i : Int) < (L2 : Int) := by omega
          obtain ⟨b2, o2, rfl, hb2⟩ := H2.out.form (by omega)
          have k2 := k2 b2 o2 rfl (by omega)
          obtain ⟨D, hD⟩ : ∃ D : Int, D = D1 - (y : Int) := ⟨_, rfl⟩
          have a3 : IntKind.i64.wrap (D1 - (y : Int)) = D := by rw [← hD]; exact i64_in _ (by omega) (by omega)
          have a4 : wrap64 D = D := w64_in _ (by omega) (by omega)
          have hlt : D < 0 := by omega
          obtain ⟨d, hd⟩ : ∃ d : Nat, d + y + c = x + 10 * 1 := ⟨x + 10 * 1 - y - c, by omega⟩
          have st := st d 1 hd (by omega) (by omega)
          obtain ⟨T, hT⟩ : ∃ T : Int, T = (d : Int) := ⟨_, rfl⟩
          have a5 : IntKind.i64.wrap (D + 10) = T := by rw [show D + 10 = T by omega]; exact i64_in _ (by omega) (by omega)
          have a6 : wrap64 T = T := w64_in _ (by omega) (by omega)
          have hsn : iV (zs (l ++ [d])) = iV (zs l) ++ [.int .i64 T] := by rw [iV_snoc, hT]
          have HSN := Lib.hid hsn; have HST := Lib.hid st
          have ka := keep_alloc hbr (.cells #[.int .i64 T] 3)
          clear hsn st hT hd hbr hrow hl hC hc1 hD1 x9 hD y9 y1
          go_wp2_with (at_builtin; refine wpList_append_own _ rfl _ _ 38 rfl w.heap.size 3 i0 (.int .i64 0) 1 8 Tryz.underlying38 hi hz0 hz1 hz2 rfl (by decide) _ _ _ rfl (HR.out.alloc _) ⟨wr.heap.size, 0, none⟩ 1 1 [.int .i64 T] rfl rfl (cell_one_new _ _ _) (by simp [Value.oneCell']) mx1 mx2 ka.size ?_; intro v1 w1 hown1 hgrow _)
          clear a5 a6 a1 a2 a3 a4
          go_roundw
          case rel => exact ⟨i + 1, 1, 1, l ++ [d], by go_num, rfl, rfl, by omega, by rw [List.length_append, ← HL.out]; rfl, HST, by rw [HSN.out]; exact hown1, keep_grown ka hgrow (HR.out.alloc _)⟩
          case measure => simp [intOf]; omega
        · skip
          have j2 : (i : Int) < (L2 : Int) := by omega
          obtain ⟨b2, o2, rfl, hb2⟩ := H2.out.form (by omega)
          have k2 := k2 b2 o2 rfl (by omega)
          obtain ⟨D, hD⟩ : ∃ D : Int, D = D1 - (y : Int) := ⟨_, rfl⟩
          have a3 : IntKind.i64.wrap (D1 - (y : Int)) = D := by rw [← hD]; exact i64_in _ (by omega) (by omega)
          have a4 : wrap64 D = D := w64_in _ (by omega) (by omega)
          have hlt : ¬ D < 0 := by omega
          obtain ⟨d, hd⟩ : ∃ d : Nat, d + y + c = x + 10 * 0 := ⟨x + 10 * 0 - y - c, by omega⟩
          have st := st d 0 hd (by omega) (by omega)
          obtain ⟨T, hT⟩ : ∃ T : Int, T = (d : Int) := ⟨_, rfl⟩
          have hTD : T = D := by omega
          have hT2 : D = (d : Int) := by omega
          clear hTD hT
          have hsn : iV (zs (l ++ [d])) = iV (zs l) ++ [.int .i64 D] := by rw [iV_snoc, hT2]
          have HSN := Lib.hid hsn; have HST := Lib.hid st
          have ka := keep_alloc hbr (.cells #[.int .i64 D] 3)
          clear hsn st hT2 hd hbr hrow hl hC hc1 hD1 x9 hD y9 y1
          go_wp2_with (at_builtin; refine wpList_append_own _ rfl _ _ 38 rfl w.heap.size 3 i0 (.int .i64 0) 1 8 Tryz.underlying38 hi hz0 hz1 hz2 rfl (by decide) _ _ _ rfl (HR.out.alloc _) ⟨wr.heap.size, 0, none⟩ 1 1 [.int .i64 D] rfl rfl (cell_one_new _ _ _) (by simp [Value.oneCell']) mx1 mx2 ka.size ?_; intro v1 w1 hown1 hgrow _)
          clear  a1 a2 a3 a4
          go_roundw
          case rel => exact ⟨i + 1, 0, 0, l ++ [d], by go_num, rfl, rfl, by omega, by rw [List.length_append, ← HL.out]; rfl, HST, by rw [HSN.out]; exact hown1, keep_grown ka hgrow (HR.out.alloc _)⟩
          case measure => simp [intOf]; omega
      · by_cases h3 : (x : Int) - C < 0
        · skip
          have j2 : ¬ (i : Int) < (L2 : Int) := by omega
          have y0 := y1 (by omega)
          subst y0
          have hlt : D1 < 0 := by omega
          obtain ⟨d, hd⟩ : ∃ d : Nat, d + 0 + c = x + 10 * 1 := ⟨x + 10 * 1 - 0 - c, by omega⟩
          have st := st d 1 hd (by omega) (by omega)
          obtain ⟨T, hT⟩ : ∃ T : Int, T = (d : Int) := ⟨_, rfl⟩
          have a5 : IntKind.i64.wrap (D1 + 10) = T := by rw [show D1 + 10 = T by omega]; exact i64_in _ (by omega) (by omega)
          have a6 : wrap64 T = T := w64_in _ (by omega) (by omega)
          have hsn : iV (zs (l ++ [d])) = iV (zs l) ++ [.int .i64 T] := by rw [iV_snoc, hT]
          have HSN := Lib.hid hsn; have HST := Lib.hid st
          have ka := keep_alloc hbr (.cells #[.int .i64 T] 3)
          clear hsn st hT hd hbr hrow hl hC hc1 hD1 x9 k2 y1 y9
          go_wp2_with (at_builtin; refine wpList_append_own _ rfl _ _ 38 rfl w.heap.size 3 i0 (.int .i64 0) 1 8 Tryz.underlying38 hi hz0 hz1 hz2 rfl (by decide) _ _ _ rfl (HR.out.alloc _) ⟨wr.heap.size, 0, none⟩ 1 1 [.int .i64 T] rfl rfl (cell_one_new _ _ _) (by simp [Value.oneCell']) mx1 mx2 ka.size ?_; intro v1 w1 hown1 hgrow _)
          clear a5 a6 a1 a2
          go_roundw
          case rel => exact ⟨i + 1, 1, 1, l ++ [d], by go_num, rfl, rfl, by omega, by rw [List.length_append, ← HL.out]; rfl, HST, by rw [HSN.out]; exact hown1, keep_grown ka hgrow (HR.out.alloc _)⟩
          case measure => simp [intOf]; omega
        · skip
          have j2 : ¬ (i : Int) < (L2 : Int) := by omega
          have y0 := y1 (by omega)
          subst y0
          have hlt : ¬ D1 < 0 := by omega
          obtain ⟨d, hd⟩ : ∃ d : Nat, d + 0 + c = x + 10 * 0 := ⟨x + 10 * 0 - 0 - c, by omega⟩
          have st := st d 0 hd (by omega) (by omega)
          obtain ⟨T, hT⟩ : ∃ T : Int, T = (d : Int) := ⟨_, rfl⟩
          have hTD : T = D1 := by omega
          have hT2 : D1 = (d : Int) := by omega
          clear hTD hT
          have hsn : iV (zs (l ++ [d])) = iV (zs l) ++ [.int .i64 D1] := by rw [iV_snoc, hT2]
          have HSN := Lib.hid hsn; have HST := Lib.hid st
          have ka := keep_alloc hbr (.cells #[.int .i64 D1] 3)
          clear hsn st hT2 hd hbr hrow hl hC hc1 hD1 x9 k2 y1 y9
          go_wp2_with (at_builtin; refine wpList_append_own _ rfl _ _ 38 rfl w.heap.size 3 i0 (.int .i64 0) 1 8 Tryz.underlying38 hi hz0 hz1 hz2 rfl (by decide) _ _ _ rfl (HR.out.alloc _) ⟨wr.heap.size, 0, none⟩ 1 1 [.int .i64 D1] rfl rfl (cell_one_new _ _ _) (by simp [Value.oneCell']) mx1 mx2 ka.size ?_; intro v1 w1 hown1 hgrow _)
          clear  a1 a2
          go_roundw
          case rel => exact ⟨i + 1, 0, 0, l ++ [d], by go_num, rfl, rfl, by omega, by rw [List.length_append, ← HL.out]; rfl, HST, by rw [HSN.out]; exact hown1, keep_grown ka hgrow (HR.out.alloc _)⟩
          case measure => simp [intOf]; omega
    · have j1 : ¬ (i : Int) < (L1 : Int) := by omega
      have z1 := dl_zero H1.out (i := i) (by omega)
      have hend := minus_end HP.out z1
      have hsm := HP.out.2.2.2
      obtain ⟨A, c', rfl, hD, hF⟩ := own_dlf _ hl hrow
      have cT := trim_any A i c' wr.heap.size l hsm (by omega) wr hD
      rw [hend] at cT
      have HF := Lib.hid hF
      clear hrow hl hD hF hbr hC z1 hend hsm HR HL HP
      go_wp2_with (first | (go_at_call 27; (with_reducible refine cT.mono ?_); rintro e w' ⟨⟨L', rfl, hD'⟩, rfl⟩) | fail)
      have HD := Lib.hid hD'
      clear hD'
      go_ret
      exact ⟨A, L', c', rfl, HD.out, HF.out, HBR.out⟩
end Go.Proofs.YtnehkoedmcnjoaaGreatDoor
