/- The reference's root, digit by digit. -/
import Derived.Test.YtnehkoedmcnjoaaGreatDoorRck
import Derived.Test.YtnehkoedmcnjoaaGreatDoorRtd
import Derived.Test.YtnehkoedmcnjoaaGreatDoorRdg
import Derived.Test.YtnehkoedmcnjoaaGreatDoorRsg
namespace Go.Proofs.YtnehkoedmcnjoaaGreatDoor
open Go.RowKit

theorem dl200 {w : World} {B : Nat} {A : Option Addr} {L c n : Nat} (h : Dl w B A L c (dg n)) (hn : n < 10 ^ 200) : L ≤ 200 := by rw [h.len]; exact dg_len_lt hn
theorem vlen {O : List Nat} {K : Nat} (hO : O.length = K) (hs : Small O) : (dg (valD O)).length ≤ K := dg_len_lt (by have := valD_lt hs; rwa [hO] at this)

theorem half_facts (L : Nat) (h : L ≤ 200) : ∃ (K : Nat) (S : Int), K = (L + 1) / 2 ∧ K ≤ 101 ∧ wrap64 ((L : Int) + 1) = S ∧ IntKind.i64.wrap ((L : Int) + 1) = S ∧ wrap64 (S.tdiv 2) = (K : Int) ∧ IntKind.i64.wrap (S.tdiv 2) = (K : Int) ∧ (0 : Int) ≤ (K : Int) := by
  have e : (((L : Int) + 1)).tdiv 2 = (((L + 1) / 2 : Nat) : Int) := by rw [Int.tdiv_eq_ediv_of_nonneg (by omega)]; omega
  refine ⟨(L + 1) / 2, (L : Int) + 1, rfl, by omega, w64_in _ (by omega) (by omega), i64_in _ (by omega) (by omega), ?_, ?_, by omega⟩
  · rw [e]; exact w64_in _ (by omega) (by omega)
  · rw [e]; exact i64_in _ (by omega) (by omega)

set_option maxRecDepth 100000 in
set_option maxHeartbeats 8000000 in
theorem rroot_pos (a : ByteArray) (n : Nat) (hn : n < 10 ^ 200) (X : Int) (h0 : 0 < a.size) (hX : ((a[0].toNat : Nat) : Int) = X) (hX2 : (X == 45) = false) (R : ByteArray) (hR : R = dec (rt n : Nat))
    (cV : ∀ W, Calls Tryz.prog 22 #[.string a] W fun e w' => e = .returned (.bool true) ∧ Below W.heap.size W w')
    (cD : ∀ W, Calls Tryz.prog 30 #[.string a] W fun e w' => ∃ A L c, e = .returned (.tuple #[.bool false, .slice A L c]) ∧ Dl w' w'.heap.size A L c (dg n) ∧ Below W.heap.size W w') (w : World) :
    Calls Tryz.prog 18 #[.string a] w fun e w' => e = .returned (.tuple #[.string R, .int .i64 0]) ∧ Below w.heap.size w w' := by
  have hfr : fits (sgn false (rt n)) = true := by
    rw [fits, sgn_abs, decide_eq_true_eq]
    exact Nat.lt_of_le_of_lt (rt_le n) hn
  have cC : ∀ (W : World) (A : Option Addr) (L c : Nat), L ≤ 2000 → Dl W W.heap.size A L c (dg (rt n)) → Calls Tryz.prog 34 #[.bool false, .slice A L c] W fun e w' => e = .returned (.tuple #[.string R, .int .i64 0]) ∧ Below W.heap.size W w' := fun W A L c hL h => by
    have := rcheck_any false A L c _ hL W h
    rw [outT_fits hfr, outE_fits hfr] at this
    rw [hR]; exact this
  have CC := Lib.hid cC; have CV := Lib.hid cV; have CD := Lib.hid cD; have HN := Lib.hid hn
  clear cC cV cD hfr hR hn
  go_enter Tryz.func18, Tryz.ntmps18
  go_wp2_with (first
    | (go_at_call 22; (with_reducible refine (CV.out _).mono ?_); rintro e w0 ⟨rfl, b0⟩)
    | (go_at_call 30; (with_reducible refine (CD.out _).mono ?_); rintro e w1 ⟨A, L, c0, rfl, hD, b1⟩; have hL := dl200 hD HN.out; obtain ⟨K, SS, hK, hK2, s1, s2, s3, s4, s5⟩ := half_facts L hL; have hmk := make_ints K (by omega); have b01 := below_step b0 b1; obtain ⟨Z0, hZ0, z5, z6, z7⟩ := less_facts K (by omega); have HZ0 := Lib.hid hZ0; have HK := Lib.hid hK; have HD := Lib.hid hD; clear hD hK hZ0)
    | fail)
  clear s1 s2 s3 s4 hmk z5 z6
  go_loopw [7] (fun p wr => ∃ (k T : Nat) (z : Int) (O : List Nat), p = .int .i64 z ∧ z + 1 = (k : Int) ∧ k ≤ K ∧ O.length = K ∧ Hid (RtAt n k T O) ∧ IRow wr w1.heap.size (zs O) ∧ Below w1.heap.size w1 wr) (fun p _ => (intOf p + 1).toNat)
  case atStart => exact ⟨K, 0, _, List.replicate K 0, rfl, by first | (rw [HZ0.out]; omega) | (rw [z7, HZ0.out]; omega), Nat.le_refl _, by rw [List.length_replicate], Lib.hid (rt_start n K (by have := HD.out.len; have := HK.out; omega)), by rw [zs_rep]; exact Row.made w1 _ _, below_alloc w1 _⟩
  case round =>
    clear z7
    obtain ⟨k, T, z, O, rfl, hz, hk, hO, HT, hrow, hbr⟩ := hrel
    by_cases hk0 : k = 0
    · subst hk0
      obtain rfl : z = -1 := by omega
      have hend := rt_end HT.out
      have cT := trim_any (some ⟨w1.heap.size, 0, none⟩) K K wr.heap.size O HT.out.2.1 (by omega) wr (hrow.dl hO (by omega))
      rw [hend] at cT
      have hlr : ∀ (W : World) (B : Nat) (A : Option Addr) (L c : Nat), Dl W B A L c (dg (rt n)) → L ≤ 2000 := fun W B A L c h => by
        have a := h.len
        have b := dg_len_lt (Nat.lt_of_le_of_lt (rt_le n) HN.out)
        omega
      have HBR := Lib.hid hbr; have HLR := Lib.hid hlr
      clear hrow hO hbr hend HT hz hlr
      go_wp2_with (first
        | (go_at_call 27; (with_reducible refine cT.mono ?_); rintro e w3 ⟨⟨L', rfl, hD'⟩, rfl⟩; have hL' := HLR.out _ _ _ _ _ hD'; have HD2 := Lib.hid hD'; clear hD')
        | (go_at_call 34; (with_reducible refine (CC.out _ _ _ _ hL' HD2.out).mono ?_); rintro e w4 ⟨rfl, b4⟩)
        | fail)
      go_ret2
      exact ⟨rfl, below_step b01 (below_step HBR.out b4)⟩
    · obtain ⟨J, rfl⟩ : ∃ J, k = J + 1 := ⟨k - 1, by omega⟩
      obtain rfl : z = (J : Int) := by omega
      have hop := rt_open HT.out (by omega)
      have j0 : (0 : Int) ≤ (J : Int) := by omega
      have j1 : (J : Int) < (K : Int) := by omega
      have k0 := hrow.nth (HT.out.2.2.1 J (by omega) (by omega))
      have hff := hrow.frees J
      have hput := hrow.put J 9 (T := 9) rfl
      have hbp := hbr.setCell (p := ⟨w1.heap.size, J, none⟩) (Nat.le_refl _) (.int .i64 9)
      have hlen : (O.set J 9).length = K := by rw [List.length_set]; exact hO
      have HOP := Lib.hid hop; have HPUT := Lib.hid hput; have HBP := Lib.hid hbp; have HLEN := Lib.hid hlen
      clear hop hput hbp hlen hrow hbr hO HT hz
      go_wp2
      go_loopg [] 9 (fun kx wr2 => ∃ (c : Nat) (O : List Nat), c ≤ kx ∧ O.length = K ∧ Hid (RtIn n J T c O) ∧ IRow wr2 w1.heap.size (zs O) ∧ Below w1.heap.size w1 wr2)
      case atStart => exact ⟨9, O.set J 9, Nat.le_refl _, HLEN.out, HOP, HPUT.out, HBP.out⟩
      case round =>
        obtain ⟨q, O, hkx, hO, HI, hrow, hbr⟩ := hrel
        have k3 := hrow.nth HI.out.2.2.2.1
        have J9 : Hid (J < K) := Lib.hid (by omega)
        obtain ⟨Z, hZ, a5, a6, a7⟩ := less_facts J (by omega)
        have HZ := Lib.hid hZ; have HRW := Lib.hid hrow; have HBR := Lib.hid hbr; have HO := Lib.hid hO
        by_cases hq0 : q = 0
        · subst hq0
          have HSH := Lib.hid (rt_shut HI.out (.inl rfl))
          clear hrow hbr hO hkx hZ k3
          have k3 := HRW.out.nth HI.out.2.2.2.1
          go_wp2
          clear a5 a6 a7
          go_roundw
          case rel => exact ⟨J, 10 * T + 0, Z, O, rfl, by rw [HZ.out]; omega, by have := J9.out; omega, HO.out, HSH, HRW.out, HBR.out⟩
          case measure => rw [intOf, intOf, HZ.out]; omega
        · obtain ⟨c, hc⟩ : ∃ c, q = c + 1 := ⟨q - 1, by omega⟩
          have hq9 := HI.out.2.1.at HI.out.2.2.2.1
          have hq1 : (0 : Int) < (q : Int) := by omega
          obtain ⟨V, hV⟩ : ∃ V, V = valD O := ⟨_, rfl⟩
          have hVl : (dg V).length ≤ K := by rw [hV]; exact vlen hO HI.out.2.1
          have hV1 : V < 10 ^ K := (dg_len V K).1 hVl
          have hVV : (dg (V * V)).length ≤ 2 * K := by
            refine (dg_len (V * V) (2 * K)).2 ?_
            rw [Nat.two_mul, Nat.pow_add]
            exact Nat.mul_lt_mul'' hV1 hV1
          have cT : ∀ W, IRow W w1.heap.size (zs O) → Calls Tryz.prog 48 #[.slice (some ⟨w1.heap.size, 0, none⟩) K K] W fun e w' => ∃ A L c, e = .returned (.slice A L c) ∧ Dl w' w'.heap.size A L c (dg V) ∧ Far W.heap.size A ∧ Below W.heap.size W w' := fun W h => by rw [hV]; exact trimmed_any _ K K O HI.out.2.1 (by omega) W (h.dl hO (by omega))
          have cM : ∀ (A1 A2 : Option Addr) (L1 c1 L2 c2 : Nat) (W : World), Dl W W.heap.size A1 L1 c1 (dg V) → Dl W W.heap.size A2 L2 c2 (dg V) → Calls Tryz.prog 35 #[.slice A1 L1 c1, .slice A2 L2 c2] W fun e w' => ∃ A L c, e = .returned (.slice A L c) ∧ Dl w' w'.heap.size A L c (dg (V * V)) ∧ Far W.heap.size A ∧ Below W.heap.size W w' := fun A1 A2 L1 c1 L2 c2 W h1 h2 => rtimes_any A1 A2 L1 c1 V L2 c2 V (by rw [h1.len]; omega) (by rw [h2.len]; omega) W h1 h2
          obtain ⟨v, hv⟩ : ∃ v, v = ordN (V * V) n := ⟨_, rfl⟩
          have cO : ∀ (A1 : Option Addr) (L1 c1 : Nat) (W : World), Dl W W.heap.size A1 L1 c1 (dg (V * V)) → Dl W W.heap.size A L c0 (dg n) → Calls Tryz.prog 47 #[.slice A1 L1 c1, .slice A L c0] W fun e w' => e = .returned (.int .i64 v) ∧ Below W.heap.size W w' := fun A1 L1 c1 W h1 h2 => by rw [hv]; exact order_any A1 A L1 c1 (V * V) L c0 n (by rw [h1.len]; omega) (by omega) W h1 h2
          have CT := Lib.hid cT; have CM := Lib.hid cM; have CO := Lib.hid cO
          have HK2 := HD.out.kept hbr
          have HDR := Lib.hid HK2
          by_cases hgt : n < V * V
          · have hv2 : (0 : Int) < v := by rw [hv, ord_gt hgt]; omega
            have hin : RtIn n J T c (O.set J c) := rt_less (by rw [← hc]; exact HI.out) (by rw [← hV]; exact hgt)
            have HIN := Lib.hid hin
            obtain ⟨C1, hC1⟩ : ∃ C1 : Int, C1 = (c : Int) := ⟨_, rfl⟩
            have b1 : IntKind.i64.wrap ((q : Int) - 1) = C1 := by rw [show (q : Int) - 1 = C1 by omega]; exact i64_in _ (by omega) (by omega)
            have b2 : wrap64 C1 = C1 := w64_in _ (by omega) (by omega)
            have HC1 := Lib.hid hC1
            have hlen : Hid ((O.set J c).length = K) := Lib.hid (by rw [List.length_set]; exact hO)
            have hmeas : Hid (c < gk) := Lib.hid (by omega)
            have HAT := Lib.hid HI.out.2.2.2.1
            clear hv hVl hV1 hVV cT cM cO HK2 hrow hbr hO hZ hC1 hq9 hc hkx hV hgt hin
            go_wp2_with (first
              | (go_at_call 48; (with_reducible refine (CT.out _ HRW.out).mono ?_); rintro e w3 ⟨A3, L3, c3, rfl, hD3, hF3, b3⟩; have HD3 := Lib.hid hD3; have hr3 := HRW.out.under b3 HRW.out.lies; have HR3 := Lib.hid hr3; have HDR3 := Lib.hid (HDR.out.kept b3); clear hD3 hF3 hr3)
              | (go_at_call 48; (with_reducible refine (CT.out _ HR3.out).mono ?_); rintro e w4 ⟨A4, L4, c4, rfl, hD4, hF4, b4⟩; have HD4 := Lib.hid hD4; have HD34 := Lib.hid (HD3.out.kept b4); have b34 := below_step b3 b4; have HDR4 := Lib.hid (HDR3.out.kept b4); clear hD4 hF4)
              | (go_at_call 35; (with_reducible refine (CM.out _ _ _ _ _ _ _ HD34.out HD4.out).mono ?_); rintro e w5 ⟨A5, L5, c5, rfl, hD5, hF5, b5⟩; have HD5 := Lib.hid hD5; have b35 := below_step b34 b5; have HDR5 := Lib.hid (HDR4.out.kept b5); clear hD5 hF5)
              | (go_at_call 47; (with_reducible refine (CO.out _ _ _ _ HD5.out HDR5.out).mono ?_); rintro e w6 ⟨rfl, b6⟩; have b36 := below_step b35 b6; have HB36 := Lib.hid b36; have hr6 := HRW.out.under b36 HRW.out.lies; have k6 := hr6.nth HAT.out; have hff6 := hr6.frees J; have HR6 := Lib.hid hr6; clear hr6 b3 b4 b5 b6 b34 b35 b36)
              | fail)
            clear b1 b2
            go_roundg c
            case measure => exact hmeas.out
            case rel => exact ⟨c, O.set J c, Nat.le_refl _, hlen.out, HIN, HR6.out.put J c HC1.out, (below_step HBR.out HB36.out).setCell (p := ⟨w1.heap.size, J, none⟩) (Nat.le_refl _) _⟩
          · have hv2 : ¬ (0 : Int) < v := by
              rcases Nat.lt_or_ge (V * V) n with h | h
              · rw [hv, ord_lt h]; omega
              · rw [hv, ord_eq (by omega)]; omega
            have HSH := Lib.hid (rt_shut HI.out (.inr (by rw [← hV]; omega)))
            clear hv hVl hV1 hVV cT cM cO HK2 hrow hbr hO hZ hq9 hc hkx hV hgt
            go_wp2_with (first
              | (go_at_call 48; (with_reducible refine (CT.out _ HRW.out).mono ?_); rintro e w3 ⟨A3, L3, c3, rfl, hD3, hF3, b3⟩; have HD3 := Lib.hid hD3; have hr3 := HRW.out.under b3 HRW.out.lies; have HR3 := Lib.hid hr3; have HDR3 := Lib.hid (HDR.out.kept b3); clear hD3 hF3 hr3)
              | (go_at_call 48; (with_reducible refine (CT.out _ HR3.out).mono ?_); rintro e w4 ⟨A4, L4, c4, rfl, hD4, hF4, b4⟩; have HD4 := Lib.hid hD4; have HD34 := Lib.hid (HD3.out.kept b4); have b34 := below_step b3 b4; have HDR4 := Lib.hid (HDR3.out.kept b4); clear hD4 hF4)
              | (go_at_call 35; (with_reducible refine (CM.out _ _ _ _ _ _ _ HD34.out HD4.out).mono ?_); rintro e w5 ⟨A5, L5, c5, rfl, hD5, hF5, b5⟩; have HD5 := Lib.hid hD5; have b35 := below_step b34 b5; have HDR5 := Lib.hid (HDR4.out.kept b5); clear hD5 hF5)
              | (go_at_call 47; (with_reducible refine (CO.out _ _ _ _ HD5.out HDR5.out).mono ?_); rintro e w6 ⟨rfl, b6⟩; have b36 := below_step b35 b6; have HB36 := Lib.hid b36; have HR6 := Lib.hid (HRW.out.under b36 HRW.out.lies); clear b3 b4 b5 b6 b34 b35 b36)
              | fail)
            clear a5 a6 a7
            go_roundw
            case rel => exact ⟨J, 10 * T + q, Z, O, rfl, by rw [HZ.out]; omega, by have := J9.out; omega, HO.out, HSH, HR6.out, below_step HBR.out HB36.out⟩
            case measure => rw [intOf, intOf, HZ.out]; omega
end Go.Proofs.YtnehkoedmcnjoaaGreatDoor
