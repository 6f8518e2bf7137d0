/- The reference's product of two lists of digits. -/
import Derived.Test.YtnehkoedmcnjoaaGreatDoorRmi
namespace Go.Proofs.YtnehkoedmcnjoaaGreatDoor
open Go.RowKit

theorem zs_set (l : List Nat) (j x : Nat) : (zs l).set j (x : Int) = zs (l.set j x) := by rw [zs, zs, List.map_set]
theorem IRow.put {w : World} {g : Nat} {l : List Nat} (h : IRow w g (zs l)) (j x : Nat) {T : Int} (hT : T = (x : Int)) : IRow (w.setCell ⟨g, j, none⟩ (.int .i64 T)) g (zs (l.set j x)) := by
  rw [← zs_set, ← hT]; exact h.stored j T
theorem IRow.drawnN {w : World} {g : Nat} {l : List Int} (h : IRow w g l) (n : Nat) : IRow (w.drewN n) g l := h
theorem IRow.dl {w : World} {g K : Nat} {l : List Nat} (h : IRow w g (zs l)) (hK : l.length = K) (hm : K ≤ 1000) : Dl w w.heap.size (some ⟨g, 0, none⟩) K K l :=
  ⟨hK.symm, Nat.le_refl _, by omega, by have := ints_row h h.lies 0; rwa [List.drop_zero] at this⟩
theorem IRow.nth {w : World} {g : Nat} {l : List Nat} (h : IRow w g (zs l)) {j o : Nat} (ho : l[j]? = some o) : w.cell? ⟨g, j, none⟩ = some (.int .i64 (o : Int)) := h.at (zs_at ho)
theorem zs_rep (k : Nat) : zs (List.replicate k 0) = List.replicate k 0 := by rw [zs, List.map_replicate]; rfl

set_option maxRecDepth 100000 in
set_option maxHeartbeats 8000000 in
theorem rtimes_any (A1 A2 : Option Addr) (L1 c1 m L2 c2 n : Nat) (m1 : L1 ≤ 400) (m2 : L2 ≤ 400) (w : World) (h1 : Dl w w.heap.size A1 L1 c1 (dg m)) (h2 : Dl w w.heap.size A2 L2 c2 (dg n)) :
    Calls Tryz.prog 35 #[.slice A1 L1 c1, .slice A2 L2 c2] w fun e w' => ∃ A L c, e = .returned (.slice A L c) ∧ Dl w' w'.heap.size A L c (dg (m * n)) ∧ Far w.heap.size A ∧ Below w.heap.size w w' := by
  have cap1 := h1.cap; have top1 := h1.top; have cap2 := h2.cap; have top2 := h2.top
  have len1 := h1.len; have len2 := h2.len
  have H1 := Lib.hid h1; have H2 := Lib.hid h2; have E1 := Lib.hid len1; have E2 := Lib.hid len2
  obtain ⟨K, hK⟩ : ∃ K, K = L1 + L2 := ⟨_, rfl⟩
  have hmk := make_ints K (by omega)
  have e1 : IntKind.i64.wrap ((L1 : Int) + (L2 : Int)) = (K : Int) := by rw [show (L1 : Int) + (L2 : Int) = (K : Int) by omega]; exact i64_in _ (by omega) (by omega)
  have HK := Lib.hid hK
  have hK0 : (0 : Int) ≤ (K : Int) := by omega
  clear h1 h2 len1 len2 hK
  go_enter Tryz.func35, Tryz.ntmps35
  go_wp2
  clear e1 hmk
  go_loopw [6] (fun p wr => ∃ (i : Nat) (O : List Nat), p = .int .i64 i ∧ i ≤ L1 ∧ O.length = K ∧ Hid (TimesAt m n i O) ∧ IRow wr w.heap.size (zs O) ∧ Below w.heap.size w wr) (fun p _ => L1 - (intOf p).toNat)
  case atStart => exact ⟨0, List.replicate K 0, rfl, by omega, by rw [List.length_replicate], Lib.hid (times_start m n K), by rw [zs_rep]; exact Row.made w _ _, below_alloc w _⟩
  case round =>
    obtain ⟨i, O, rfl, hi, hO, HT, hrow, hbr⟩ := hrel
    by_cases h1 : i < L1
    · have j1 : (i : Int) < (L1 : Int) := by omega
      have i0n : (0 : Int) ≤ (i : Int) := by omega
      obtain ⟨b1, o1, rfl, hb1⟩ := H1.out.form (by omega)
      have HO := Lib.hid hO; have HRW := Lib.hid hrow; have HBR := Lib.hid hbr; have HTI := Lib.hid (times_open HT.out)
      clear hO hrow hbr
      go_wp2
      go_loopw [7, 8] (fun vc vk wr => ∃ (k c : Nat) (C : Int) (O : List Nat), vk = .int .i64 k ∧ vc = .int .i64 C ∧ C = (c : Int) ∧ k ≤ L2 + 1 ∧ O.length = K ∧ Hid (TimesIn m n i k c O) ∧ IRow wr w.heap.size (zs O) ∧ Below w.heap.size w wr) (fun _ vk _ => L2 + 1 - (intOf vk).toNat)
      case atStart => exact ⟨0, 0, 0, O, rfl, rfl, rfl, by omega, HO.out, HTI, HRW.out, HBR.out⟩
      case round =>
        obtain ⟨k, c, C, O, rfl, rfl, hC, hk, hO, HI, hrow, hbr⟩ := hrel
        have HO := Lib.hid hO; have HRW := Lib.hid hrow; have HBR := Lib.hid hbr; have HC := Lib.hid hC
        have hc9 := HI.out.2.2
        have k0n : (0 : Int) ≤ (k : Int) := by omega
        by_cases h2 : k < L2
        · have j2 : (k : Int) < (L2 : Int) := by omega
          obtain ⟨b2, o2, rfl, hb2⟩ := H2.out.form (by omega)
          obtain ⟨J, hJ⟩ : ∃ J, J = i + k := ⟨_, rfl⟩
          have hKK := HK.out
          obtain ⟨o, ho⟩ : ∃ o, O[i + k]? = some o := ⟨_, List.getElem?_eq_getElem (by omega)⟩
          have ho9 := HI.out.2.1.at ho
          have k1 := (H1.out.below hbr).dig (J := i) (by omega)
          have k2 := (H2.out.below hbr).dig (J := k) (by omega)
          have k3 := hrow.nth ho
          have st := fun s hs => times_step HI.out ho (s := s) hs
          have x9 := dig9 m i; have y9 := dig9 n k
          generalize m / 10 ^ i % 10 = x at k1 st x9
          generalize n / 10 ^ k % 10 = y at k2 st y9
          rw [← hJ] at k3 st
          have w1 : IntKind.i64.wrap ((i : Int) + (k : Int)) = (J : Int) := by rw [show (i : Int) + (k : Int) = (J : Int) by omega]; exact i64_in _ (by omega) (by omega)
          have J0 : (0 : Int) ≤ (J : Int) := by omega
          have J1 : (J : Int) < (K : Int) := by omega
          have J2 : wrap64 (J : Int) = (J : Int) := w64_in _ (by omega) (by omega)
          obtain ⟨xy, hxy⟩ : ∃ xy, xy = x * y := ⟨_, rfl⟩
          have hxy9 : xy ≤ 81 := by rw [hxy]; exact Nat.mul_le_mul (show x ≤ 9 by omega) (show y ≤ 9 by omega)
          have hxyi : (x : Int) * (y : Int) = (xy : Int) := by rw [hxy, Int.natCast_mul]
          obtain ⟨s, hs⟩ : ∃ s, s = o + c + xy := ⟨_, rfl⟩
          have st := st s (by rw [hs, hxy])
          have hs9 := st.2
          have st := st.1
          obtain ⟨XY, hXY⟩ : ∃ XY : Int, XY = (xy : Int) := ⟨_, rfl⟩
          obtain ⟨N1, hN1⟩ : ∃ N1 : Int, N1 = (o : Int) + C := ⟨_, rfl⟩
          obtain ⟨S, hS⟩ : ∃ S : Int, S = (s : Int) := ⟨_, rfl⟩
          obtain ⟨T, hT⟩ : ∃ T : Int, T = ((s % 10 : Nat) : Int) := ⟨_, rfl⟩
          obtain ⟨U, hU⟩ : ∃ U : Int, U = ((s / 10 : Nat) : Int) := ⟨_, rfl⟩
          rw [← hXY] at hxyi
          have a1 : IntKind.i64.wrap ((o : Int) + C) = N1 := by rw [← hN1]; exact i64_in _ (by omega) (by omega)
          have a2 : IntKind.i64.wrap ((x : Int) * (y : Int)) = XY := by rw [hxyi]; exact i64_in _ (by omega) (by omega)
          have a3 : IntKind.i64.wrap (N1 + XY) = S := by rw [show N1 + XY = S by omega]; exact i64_in _ (by omega) (by omega)
          have a4 : S.tmod 10 = T := by rw [hS, rem10, hT]
          have a5 : S.tdiv 10 = U := by rw [hS, quo10, hU]
          have a6 : wrap64 T = T := w64_in _ (by omega) (by omega)
          have a7 : IntKind.i64.wrap T = T := i64_in _ (by omega) (by omega)
          have a8 : wrap64 U = U := w64_in _ (by omega) (by omega)
          have a9 : IntKind.i64.wrap U = U := i64_in _ (by omega) (by omega)
          have a10 : wrap64 S = S := w64_in _ (by omega) (by omega)
          have a11 : wrap64 N1 = N1 := w64_in _ (by omega) (by omega)
          have a12 : wrap64 XY = XY := w64_in _ (by omega) (by omega)
          have hff := hrow.frees J
          have hput := fun nq => (hrow.drawnN nq).put J (s % 10) hT
          have hbp := fun nq => (below_drawnN hbr nq).setCell (p := ⟨w.heap.size, J, none⟩) (Nat.le_refl _) (.int .i64 T)
          have hlen : (O.set J (s % 10)).length = K := by rw [List.length_set]; exact hO
          have HST := Lib.hid st; have HPUT := Lib.hid hput; have HBP := Lib.hid hbp; have HLEN := Lib.hid hlen; have HU := Lib.hid hU
          clear st hput hbp hlen hs hU hT hS hN1 hXY hxy hxyi ho hO hrow hbr hC hKK hJ hc9 x9 y9 hs9 ho9 hxy9
          go_wp2
          go_quiet (fail)
          go_wp2
          clear a1 a2 a3 a4 a5 a6 a7 a8 a9 a10 a11 a12 w1 J2
          go_roundw
          case rel => exact ⟨k + 1, s / 10, U, O.set J (s % 10), by go_num, rfl, HU.out, by omega, HLEN.out, HST, HPUT.out _, HBP.out _⟩
          case measure => simp [intOf]; omega
        · have j2 : ¬ (k : Int) < (L2 : Int) := by omega
          by_cases h3 : 0 < c
          · have j3 : (0 : Int) < C := by omega
            have hkk := times_in HI.out h3 (by rw [← E2.out]; omega)
            rw [← E2.out] at hkk
            have y0 : n / 10 ^ k % 10 = 0 := by rw [dl_zero H2.out (i := k) (by omega)]
            obtain ⟨J, hJ⟩ : ∃ J, J = i + k := ⟨_, rfl⟩
            have hKK := HK.out
            obtain ⟨o, ho⟩ : ∃ o, O[i + k]? = some o := ⟨_, List.getElem?_eq_getElem (by omega)⟩
            have ho9 := HI.out.2.1.at ho
            have k3 := hrow.nth ho
            have st := fun s hs => times_step HI.out ho (s := s) hs
            rw [y0] at st
            rw [← hJ] at k3 st
            have w1 : IntKind.i64.wrap ((i : Int) + (k : Int)) = (J : Int) := by rw [show (i : Int) + (k : Int) = (J : Int) by omega]; exact i64_in _ (by omega) (by omega)
            have J0 : (0 : Int) ≤ (J : Int) := by omega
            have J1 : (J : Int) < (K : Int) := by omega
            have J2 : wrap64 (J : Int) = (J : Int) := w64_in _ (by omega) (by omega)
            obtain ⟨s, hs⟩ : ∃ s, s = o + c := ⟨_, rfl⟩
            have st := st s (by rw [hs, Nat.mul_zero, Nat.add_zero])
            have hs9 := st.2
            have st := st.1
            obtain ⟨S, hS⟩ : ∃ S : Int, S = (s : Int) := ⟨_, rfl⟩
            obtain ⟨T, hT⟩ : ∃ T : Int, T = ((s % 10 : Nat) : Int) := ⟨_, rfl⟩
            obtain ⟨U, hU⟩ : ∃ U : Int, U = ((s / 10 : Nat) : Int) := ⟨_, rfl⟩
            have a1 : IntKind.i64.wrap ((o : Int) + C) = S := by rw [show (o : Int) + C = S by omega]; exact i64_in _ (by omega) (by omega)
            have a4 : S.tmod 10 = T := by rw [hS, rem10, hT]
            have a5 : S.tdiv 10 = U := by rw [hS, quo10, hU]
            have a6 : wrap64 T = T := w64_in _ (by omega) (by omega)
            have a7 : IntKind.i64.wrap T = T := i64_in _ (by omega) (by omega)
            have a8 : wrap64 U = U := w64_in _ (by omega) (by omega)
            have a9 : IntKind.i64.wrap U = U := i64_in _ (by omega) (by omega)
            have a10 : wrap64 S = S := w64_in _ (by omega) (by omega)
            have hff := hrow.frees J
            have hput := hrow.put J (s % 10) hT
            have hbp := hbr.setCell (p := ⟨w.heap.size, J, none⟩) (Nat.le_refl _) (.int .i64 T)
            have hlen : (O.set J (s % 10)).length = K := by rw [List.length_set]; exact hO
            have HST := Lib.hid st; have HPUT := Lib.hid hput; have HBP := Lib.hid hbp; have HLEN := Lib.hid hlen; have HU := Lib.hid hU
            have HKK2 := Lib.hid hkk
            clear st hput hbp hlen hs hU hT hS ho hO hrow hbr hC hKK hJ hc9 hs9 ho9 y0 hkk
            go_wp2
            clear a1 a4 a5 a6 a7 a8 a9 a10 w1 J2
            go_roundw
            case rel => exact ⟨k + 1, s / 10, U, O.set J (s % 10), by go_num, rfl, HU.out, by have := HKK2.out; omega, HLEN.out, HST, HPUT.out, HBP.out⟩
            case measure => have := HKK2.out; simp [intOf]; omega
          · have j3 : ¬ (0 : Int) < C := by omega
            obtain rfl : c = 0 := by omega
            have HT2 := Lib.hid (times_shut HI.out (by rw [← E2.out]; omega))
            clear hO hrow hbr hC
            go_wp2
            go_roundw
            case rel => exact ⟨i + 1, O, by go_num, by omega, HO.out, HT2, HRW.out, HBR.out⟩
            case measure => simp [intOf]; omega
    · have j1 : ¬ (i : Int) < (L1 : Int) := by omega
      have hKK := HK.out
      have hend := times_end HT.out (by rw [← E1.out]; omega)
      have cT := trim_any (some ⟨w.heap.size, 0, none⟩) K K wr.heap.size O HT.out.2 (by omega) wr (hrow.dl hO (by omega))
      rw [hend] at cT
      have HBR := Lib.hid hbr
      clear hrow hO hbr hend hKK HT
      go_wp2_with (first | (go_at_call 27; (with_reducible refine cT.mono ?_); rintro e w' ⟨⟨L', rfl, hD'⟩, rfl⟩) | fail)
      have HD := Lib.hid hD'
      clear hD'
      go_ret
      exact ⟨_, L', K, rfl, HD.out, fun ad e => by cases e; exact Nat.le_refl _, HBR.out⟩
end Go.Proofs.YtnehkoedmcnjoaaGreatDoor
