/- The reference's product of two lists of digits. The reference's long division, digit by digit. -/
import Derived.Test.YtgpncnnlhhmjaaaGreatDoorRpl
namespace Go.Proofs.YtgpncnnlhhmjaaaGreatDoor
open Go.RowKit

theorem zs_set (l : List Nat) (j x : Nat) : (zs l).set j (x : Int) = zs (l.set j x) := by rw [zs, zs, List.map_set]
theorem IRow.put {w : World} {g : Nat} {l : List Nat} (h : IRow w g (zs l)) (j x : Nat) {T : Int} (hT : T = (x : Int)) : IRow (w.setCell ⟨g, j, none⟩ (.int .i64 T)) g (zs (l.set j x)) := by
  rw [← zs_set, ← hT]; exact h.stored j T
theorem IRow.drawnN {w : World} {g : Nat} {l : List Int} (h : IRow w g l) (n : Nat) : IRow (w.drewN n) g l := h
theorem IRow.dl {w : World} {g K : Nat} {l : List Nat} (h : IRow w g (zs l)) (hK : l.length = K) (hm : K ≤ 1000) : Dl w w.heap.size (some ⟨g, 0, none⟩) K K l :=
  ⟨hK.symm, Nat.le_refl _, by omega, by have := ints_row h h.lies 0; rwa [List.drop_zero] at this⟩
theorem IRow.nth {w : World} {g : Nat} {l : List Nat} (h : IRow w g (zs l)) {j o : Nat} (ho : l[j]? = some o) : w.cell? ⟨g, j, none⟩ = some (.int .i64 (o : Int)) := h.at (zs_at ho)
theorem zs_rep (k : Nat) : zs (List.replicate k 0) = List.replicate k 0 := by rw [zs, List.map_replicate]; rfl

set_option maxRecDepth 100000 in
set_option maxHeartbeats 8000000 in
theorem rtimes_any (A1 A2 : Option Addr) (L1 c1 m L2 c2 n : Nat) (m1 : L1 ≤ 400) (m2 : L2 ≤ 400) (w : World) (h1 : Dl w w.heap.size A1 L1 c1 (dg m)) (h2 : Dl w w.heap.size A2 L2 c2 (dg n)) :
    Calls Tryz.prog 71 #[.slice A1 L1 c1, .slice A2 L2 c2] w fun e w' => ∃ A L c, e = .returned (.slice A L c) ∧ Dl w' w'.heap.size A L c (dg (m * n)) ∧ Far w.heap.size A ∧ Below w.heap.size w w' := by
  have cap1 := h1.cap; have top1 := h1.top; have cap2 := h2.cap; have top2 := h2.top
  have len1 := h1.len; have len2 := h2.len
  have H1 := Lib.hid h1; have H2 := Lib.hid h2; have E1 := Lib.hid len1; have E2 := Lib.hid len2
  obtain ⟨K, hK⟩ : ∃ K, K = L1 + L2 := ⟨_, rfl⟩
  have hmk := make_ints K (by omega)
  have e1 : IntKind.i64.wrap ((L1 : Int) + (L2 : Int)) = (K : Int) := by rw [show (L1 : Int) + (L2 : Int) = (K : Int) by omega]; exact i64_in _ (by omega) (by omega)
  have HK := Lib.hid hK
  have hK0 : (0 : Int) ≤ (K : Int) := by omega
  clear h1 h2 len1 len2 hK
  go_enter Tryz.func71, Tryz.ntmps71
  go_wp2
  clear e1 hmk
  go_loopw [6] (fun p wr => ∃ (i : Nat) (O : List Nat), p = .int .i64 i ∧ i ≤ L1 ∧ O.length = K ∧ Hid (TimesAt m n i O) ∧ IRow wr w.heap.size (zs O) ∧ Below w.heap.size w wr) (fun p _ => L1 - (intOf p).toNat)
  case atStart => exact ⟨0, List.replicate K 0, rfl, by omega, by rw [List.length_replicate], Lib.hid (times_start m n K), by rw [zs_rep]; exact Row.made w _ _, below_alloc w _⟩
  case round =>
    obtain ⟨i, O, rfl, hi, hO, HT, hrow, hbr⟩ := hrel
    by_cases h1 : i < L1
    · have j1 : (i : Int) < (L1 : Int) := by omega
      have i0n : (0 : Int) ≤ (i : Int) := by omega
      obtain ⟨b1, o1, rfl, hb1⟩ := H1.out.form (by omega)
      have HO := Lib.hid hO; have HRW := Lib.hid hrow; have HBR := Lib.hid hbr; have HTI := Lib.hid (times_open HT.out)
      clear hO hrow hbr
      go_wp2
      go_loopw [7, 8] (fun vc vk wr => ∃ (k c : Nat) (C : Int) (O : List Nat), vk = .int .i64 k ∧ vc = .int .i64 C ∧ C = (c : Int) ∧ k ≤ L2 + 1 ∧ O.length = K ∧ Hid (TimesIn m n i k c O) ∧ IRow wr w.heap.size (zs O) ∧ Below w.heap.size w wr) (fun _ vk _ => L2 + 1 - (intOf vk).toNat)
      case atStart => exact ⟨0, 0, 0, O, rfl, rfl, rfl, by omega, HO.out, HTI, HRW.out, HBR.out⟩
      case round =>
        obtain ⟨k, c, C, O, rfl, rfl, hC, hk, hO, HI, hrow, hbr⟩ := hrel
        have HO := Lib.hid hO; have HRW := Lib.hid hrow; have HBR := Lib.hid hbr; have HC := Lib.hid hC
        have hc9 := HI.out.2.2
        have k0n : (0 : Int) ≤ (k : Int) := by omega
        by_cases h2 : k < L2
        · have j2 : (k : Int) < (L2 : Int) := by omega
          obtain ⟨b2, o2, rfl, hb2⟩ := H2.out.form (by omega)
          obtain ⟨J, hJ⟩ : ∃ J, J = i + k := ⟨_, rfl⟩
          have hKK := HK.out
          obtain ⟨o, ho⟩ : ∃ o, O[i + k]? = some o := ⟨_, List.getElem?_eq_getElem (by omega)⟩
          have ho9 := HI.out.2.1.at ho
          have k1 := (H1.out.below hbr).dig (J := i) (by omega)
          have k2 := (H2.out.below hbr).dig (J := k) (by omega)
          have k3 := hrow.nth ho
          have st := fun s hs => times_step HI.out ho (s := s) hs
          have x9 := dig9 m i; have y9 := dig9 n k
          generalize m / 10 ^ i % 10 = x at k1 st x9
          generalize n / 10 ^ k % 10 = y at k2 st y9
          rw [← hJ] at k3 st
          have w1 : IntKind.i64.wrap ((i : Int) + (k : Int)) = (J : Int) := by rw [show (i : Int) + (k : Int) = (J : Int) by omega]; exact i64_in _ (by omega) (by omega)
          have J0 : (0 : Int) ≤ (J : Int) := by omega
          have J1 : (J : Int) < (K : Int) := by omega
          have J2 : wrap64 (J : Int) = (J : Int) := w64_in _ (by omega) (by omega)
          obtain ⟨xy, hxy⟩ : ∃ xy, xy = x * y := ⟨_, rfl⟩
          have hxy9 : xy ≤ 81 := by rw [hxy]; exact Nat.mul_le_mul (show x ≤ 9 by omega) (show y ≤ 9 by omega)
          have hxyi : (x : Int) * (y : Int) = (xy : Int) := by rw [hxy, Int.natCast_mul]
          obtain ⟨s, hs⟩ : ∃ s, s = o + c + xy := ⟨_, rfl⟩
          have st := st s (by rw [hs, hxy])
          have hs9 := st.2
          have st := st.1
          obtain ⟨XY, hXY⟩ : ∃ XY : Int, XY = (xy : Int) := ⟨_, rfl⟩
          obtain ⟨N1, hN1⟩ : ∃ N1 : Int, N1 = (o : Int) + C := ⟨_, rfl⟩
          obtain ⟨S, hS⟩ : ∃ S : Int, S = (s : Int) := ⟨_, rfl⟩
          obtain ⟨T, hT⟩ : ∃ T : Int, T = ((s % 10 : Nat) : Int) := ⟨_, rfl⟩
          obtain ⟨U, hU⟩ : ∃ U : Int, U = ((s / 10 : Nat) : Int) := ⟨_, rfl⟩
          rw [← hXY] at hxyi
          have a1 : IntKind.i64.wrap ((o : Int) + C) = N1 := by rw [← hN1]; exact i64_in _ (by omega) (by omega)
          have a2 : IntKind.i64.wrap ((x : Int) * (y : Int)) = XY := by rw [hxyi]; exact i64_in _ (by omega) (by omega)
          have a3 : IntKind.i64.wrap (N1 + XY) = S := by rw [show N1 + XY = S by omega]; exact i64_in _ (by omega) (by omega)
          have a4 : S.tmod 10 = T := by rw [hS, rem10, hT]
          have a5 : S.tdiv 10 = U := by rw [hS, quo10, hU]
          have a6 : wrap64 T = T := w64_in _ (by omega) (by omega)
          have a7 : IntKind.i64.wrap T = T := i64_in _ (by omega) (by omega)
          have a8 : wrap64 U = U := w64_in _ (by omega) (by omega)
          have a9 : IntKind.i64.wrap U = U := i64_in _ (by omega) (by omega)
          have a10 : wrap64 S = S := w64_in _ (by omega) (by omega)
          have a11 : wrap64 N1 = N1 := w64_in _ (by omega) (by omega)
          have a12 : wrap64 XY = XY := w64_in _ (by omega) (by omega)
          have hff := hrow.frees J
          have hput := fun nq => (hrow.drawnN nq).put J (s % 10) hT
          have hbp := fun nq => (below_drawnN hbr nq).setCell (p := ⟨w.heap.size, J, none⟩) (Nat.le_refl _) (.int .i64 T)
          have hlen : (O.set J (s % 10)).length = K := by rw [List.length_set]; exact hO
          have HST := Lib.hid st; have HPUT := Lib.hid hput; have HBP := Lib.hid hbp; have HLEN := Lib.hid hlen; have HU := Lib.hid hU
          clear st hput hbp hlen hs hU hT hS hN1 hXY hxy hxyi ho hO hrow hbr hC hKK hJ hc9 x9 y9 hs9 ho9 hxy9
          go_wp2
          go_quiet (fail)
          go_wp2
          clear a1 a2 a3 a4 a5 a6 a7 a8 a9 a10 a11 a12 w1 J2
          go_roundw
          case rel => exact ⟨k + 1, s / 10, U, O.set J (s % 10), by go_num, rfl, HU.out, by omega, HLEN.out, HST, HPUT.out _, HBP.out _⟩
          case measure => simp [intOf]; omega
        · have j2 : ¬ (k : Int) < (L2 : Int) := by omega
          by_cases h3 : 0 < c
          · have j3 : (0 : Int) < C := by omega
            have hkk := times_in HI.out h3 (by rw [← E2.out]; omega)
            rw [← E2.out] at hkk
            have y0 : n / 10 ^ k % 10 = 0 := by rw [dl_zero H2.out (i := k) (by omega)]
            obtain ⟨J, hJ⟩ : ∃ J, J = i + k := ⟨_, rfl⟩
            have hKK := HK.out
            obtain ⟨o, ho⟩ : ∃ o, O[i + k]? = some o := ⟨_, List.getElem?_eq_getElem (by omega)⟩
            have ho9 := HI.out.2.1.at ho
            have k3 := hrow.nth ho
            have st := fun s hs => times_step HI.out ho (s := s) hs
            rw [y0] at st
            rw [← hJ] at k3 st
            have w1 : IntKind.i64.wrap ((i : Int) + (k : Int)) = (J : Int) := by rw [show (i : Int) + (k : Int) = (J : Int) by omega]; exact i64_in _ (by omega) (by omega)
            have J0 : (0 : Int) ≤ (J : Int) := by omega
            have J1 : (J : Int) < (K : Int) := by omega
            have J2 : wrap64 (J : Int) = (J : Int) := w64_in _ (by omega) (by omega)
            obtain ⟨s, hs⟩ : ∃ s, s = o + c := ⟨_, rfl⟩
            have st := st s (by rw [hs, Nat.mul_zero, Nat.add_zero])
            have hs9 := st.2
            have st := st.1
            obtain ⟨S, hS⟩ : ∃ S : Int, S = (s : Int) := ⟨_, rfl⟩
            obtain ⟨T, hT⟩ : ∃ T : Int, T = ((s % 10 : Nat) : Int) := ⟨_, rfl⟩
            obtain ⟨U, hU⟩ : ∃ U : Int, U = ((s / 10 : Nat) : Int) := ⟨_, rfl⟩
            have a1 : IntKind.i64.wrap ((o : Int) + C) = S := by rw [show (o : Int) + C = S by omega]; exact i64_in _ (by omega) (by omega)
            have a4 : S.tmod 10 = T := by rw [hS, rem10, hT]
            have a5 : S.tdiv 10 = U := by rw [hS, quo10, hU]
            have a6 : wrap64 T = T := w64_in _ (by omega) (by omega)
            have a7 : IntKind.i64.wrap T = T := i64_in _ (by omega) (by omega)
            have a8 : wrap64 U = U := w64_in _ (by omega) (by omega)
            have a9 : IntKind.i64.wrap U = U := i64_in _ (by omega) (by omega)
            have a10 : wrap64 S = S := w64_in _ (by omega) (by omega)
            have hff := hrow.frees J
            have hput := hrow.put J (s % 10) hT
            have hbp := hbr.setCell (p := ⟨w.heap.size, J, none⟩) (Nat.le_refl _) (.int .i64 T)
            have hlen : (O.set J (s % 10)).length = K := by rw [List.length_set]; exact hO
            have HST := Lib.hid st; have HPUT := Lib.hid hput; have HBP := Lib.hid hbp; have HLEN := Lib.hid hlen; have HU := Lib.hid hU
            have HKK2 := Lib.hid hkk
            clear st hput hbp hlen hs hU hT hS ho hO hrow hbr hC hKK hJ hc9 hs9 ho9 y0 hkk
            go_wp2
            clear a1 a4 a5 a6 a7 a8 a9 a10 w1 J2
            go_roundw
            case rel => exact ⟨k + 1, s / 10, U, O.set J (s % 10), by go_num, rfl, HU.out, by have := HKK2.out; omega, HLEN.out, HST, HPUT.out, HBP.out⟩
            case measure => have := HKK2.out; simp [intOf]; omega
          · have j3 : ¬ (0 : Int) < C := by omega
            obtain rfl : c = 0 := by omega
            have HT2 := Lib.hid (times_shut HI.out (by rw [← E2.out]; omega))
            clear hO hrow hbr hC
            go_wp2
            go_roundw
            case rel => exact ⟨i + 1, O, by go_num, by omega, HO.out, HT2, HRW.out, HBR.out⟩
            case measure => simp [intOf]; omega
    · have j1 : ¬ (i : Int) < (L1 : Int) := by omega
      have hKK := HK.out
      have hend := times_end HT.out (by rw [← E1.out]; omega)
      have cT := trim_any (some ⟨w.heap.size, 0, none⟩) K K wr.heap.size O HT.out.2 (by omega) wr (hrow.dl hO (by omega))
      rw [hend] at cT
      have HBR := Lib.hid hbr
      clear hrow hO hbr hend hKK HT
      go_wp2_with (first | (go_at_call 100; (with_reducible refine cT.mono ?_); rintro e w' ⟨⟨L', rfl, hD'⟩, rfl⟩) | fail)
      have HD := Lib.hid hD'
      clear hD'
      go_ret
      exact ⟨_, L', K, rfl, HD.out, fun ad e => by cases e; exact Nat.le_refl _, HBR.out⟩
end Go.Proofs.YtgpncnnlhhmjaaaGreatDoor
namespace Go.Proofs.YtgpncnnlhhmjaaaGreatDoor
open Go.RowKit

theorem own_oneI (w : World) (B : Nat) (hB : B ≤ w.heap.size) (x : Int) : (w.alloc (.cells #[.int .i64 x] 3)).ownsRow B 3 1 (.slice (some ⟨w.heap.size, 0, none⟩) 1 1) 1 (iV [x]) :=
  ⟨rfl, .inr ⟨w.heap.size, 1, #[.int .i64 x], rfl, hB, heap_alloc_new w _, Nat.le_refl _, by unfold maxLen; omega, rfl, rfl⟩⟩
theorem rlen {R n : Nat} (h : R < 10 * n) : (dg R).length ≤ (dg n).length + 1 := by
  have a := (dg_len n (dg n).length).1 (Nat.le_refl _)
  exact (dg_len R _).2 (by rw [Nat.pow_succ]; omega)
theorem div_bound {m n i c R : Nat} {Q : List Nat} (h : DivIn m n i c R Q) (hn : 0 < n) : R < 10 * n := by
  obtain ⟨_, _, _, _, h1⟩ := h
  have h2 := Nat.mod_lt (m / 10 ^ (i + 1)) hn
  omega
theorem dl_r {w : World} {B : Nat} {A A2 : Option Addr} {L c R B2 L2 c2 n : Nat} {w2 : World} (h : Dl w B A L c (dg R)) (h2 : Dl w2 B2 A2 L2 c2 (dg n)) (hR : R < 10 * n) : L ≤ L2 + 1 := by
  have := rlen hR
  rw [h.len, h2.len]; exact this
theorem Dl.aside {w : World} {B g j L c : Nat} {A : Option Addr} {l : List Nat} (h : Dl w B A L c l) (hA : Far (g + 1) A) (v : Value) : Dl (w.setCell ⟨g, j, none⟩ v) B A L c l := by
  refine ⟨h.len, h.cap, h.top, ?_⟩
  rcases h.ints with e | ⟨b, o, e, hb, hc⟩
  · exact .inl e
  · have hgb : g + 1 ≤ b := hA _ e
    refine .inr ⟨b, o, e, hb, fun i x hi => ?_⟩
    rw [← hc i x hi]
    have hh : (w.setCell ⟨g, j, none⟩ v).heap[b]? = w.heap[b]? := heap_setCell_other w ⟨g, j, none⟩ b v (fun e => by have e : b = g := e; omega)
    unfold World.cell?
    simp only [hh]
theorem Far.less {B B' : Nat} {A : Option Addr} (h : Far B A) (hB : B' ≤ B) : Far B' A := fun ad e => Nat.le_trans hB (h ad e)
theorem size_set (w : World) (p : Addr) (v : Value) : (w.setCell p v).heap.size = w.heap.size := by simp [World.setCell]

set_option maxRecDepth 100000 in
set_option maxHeartbeats 8000000 in
theorem rdiv_any (A1 A2 : Option Addr) (L1 c1 m L2 c2 n : Nat) (hn : 0 < n) (m1 : L1 ≤ 400) (m2 : L2 ≤ 400) (w : World) (h1 : Dl w w.heap.size A1 L1 c1 (dg m)) (h2 : Dl w w.heap.size A2 L2 c2 (dg n)) :
    Calls Tryz.prog 78 #[.slice A1 L1 c1, .slice A2 L2 c2] w fun e w' => ∃ A L c A' L' c', e = .returned (.tuple #[.slice A L c, .slice A' L' c']) ∧ Dl w' w'.heap.size A L c (dg (m / n)) ∧ Dl w' w'.heap.size A' L' c' (dg (m % n)) ∧ Below w.heap.size w w' := by
  have cap1 := h1.cap; have top1 := h1.top; have cap2 := h2.cap; have top2 := h2.top
  have len1 := h1.len
  have H1 := Lib.hid h1; have H2 := Lib.hid h2; have E1 := Lib.hid len1; have HN := Lib.hid hn
  have hmk := make_ints L1 (by omega)
  obtain ⟨Z0, hZ0, z5, z6, z7⟩ := less_facts L1 (by omega)
  have HZ0 := Lib.hid hZ0
  have hL0 : (0 : Int) ≤ (L1 : Int) := by omega
  clear h1 h2 len1 hZ0 hn
  go_enter Tryz.func78, Tryz.ntmps78
  go_wp2
  clear z5 z6 z7 hmk
  go_loopw [7, 8] (fun vr p wr => ∃ (k : Nat) (z : Int) (Ar : Option Addr) (Lr cr : Nat) (Q : List Nat), p = .int .i64 z ∧ z + 1 = (k : Int) ∧ k ≤ L1 ∧ vr = .slice Ar Lr cr ∧ Q.length = L1 ∧ Hid (DivAt m n k Q) ∧ Dl wr wr.heap.size Ar Lr cr (dg (m / 10 ^ k % n)) ∧ IRow wr w.heap.size (zs Q) ∧ Below w.heap.size w wr) (fun _ p _ => (intOf p + 1).toNat)
  case atStart =>
    have hlt : m < 10 ^ L1 := (dg_len m L1).1 (by rw [← E1.out]; exact Nat.le_refl _)
    refine ⟨L1, Z0, none, 0, 0, List.replicate L1 0, rfl, by rw [HZ0.out]; omega, Nat.le_refl _, rfl, by rw [List.length_replicate], Lib.hid (ddiv_start m n L1 hlt), ?_, by rw [zs_rep]; exact Row.made w _ _, below_alloc w _⟩
    rw [Nat.div_eq_of_lt hlt, Nat.zero_mod, dg_zero]
    exact dl_nil _ _
  case round =>
    obtain ⟨k, z, Ar, Lr, cr, Q, rfl, hz, hk, rfl, hQ, HT, hr, hrow, hbr⟩ := hrel
    have hrl : Lr ≤ L2 + 1 := dl_r hr H2.out (by have := Nat.mod_lt (m / 10 ^ k) HN.out; omega)
    by_cases hk0 : k = 0
    · subst hk0
      obtain rfl : z = -1 := by omega
      have hend := div_end HT.out
      have cT := trim_any (some ⟨w.heap.size, 0, none⟩) L1 L1 wr.heap.size Q HT.out.2.1 (by omega) wr (hrow.dl hQ (by omega))
      rw [hend] at cT
      rw [Nat.pow_zero, Nat.div_one] at hr
      have HR := Lib.hid hr; have HBR := Lib.hid hbr
      clear hrow hQ hbr hend HT hr hz
      go_wp2_with (first | (go_at_call 100; (with_reducible refine cT.mono ?_); rintro e w' ⟨⟨L', rfl, hD'⟩, rfl⟩) | fail)
      have HD := Lib.hid hD'
      clear hD'
      go_ret2
      exact ⟨_, L', L1, Ar, Lr, cr, rfl, HD.out, HR.out, HBR.out⟩
    · obtain ⟨J, rfl⟩ : ∃ J, k = J + 1 := ⟨k - 1, by omega⟩
      obtain rfl : z = (J : Int) := by omega
      obtain ⟨b1, o1, rfl, hb1⟩ := H1.out.form (by omega)
      have k1 := (H1.out.below hbr).dig (J := J) (by omega)
      have hop := div_open HT.out (by omega)
      have x9 := dig9 m J
      obtain ⟨x, hx⟩ : ∃ x, x = m / 10 ^ J % 10 := ⟨_, rfl⟩
      rw [← hx] at k1 hop x9
      obtain ⟨R0, hR0⟩ : ∃ R0, R0 = m / 10 ^ (J + 1) % n := ⟨_, rfl⟩
      rw [← hR0] at hr hop
      have j0 : (0 : Int) ≤ (J : Int) := by omega
      have j1 : (J : Int) < (L1 : Int) := by omega
      obtain ⟨Z, hZ, a5, a6, a7⟩ := less_facts J (by omega)
      have hlr := hr.len
      have hsm : Small (x :: dg R0) := front_small x9
      have hv : valD (x :: dg R0) = 10 * R0 + x := front_val x R0
      have hri := (hr.ints.below (below_alloc wr (.cells #[.int .i64 (x : Int)] 3))).more (B' := (wr.alloc (.cells #[.int .i64 (x : Int)] 3)).heap.size) (by simp)
      have hone := own_oneI wr wr.heap.size (Nat.le_refl _) (x : Int)
      have hba : wr.heap.size ≤ (wr.alloc (.cells #[.int .i64 (x : Int)] 3)).heap.size := by simp
      have hgr : ∀ w2, (wr.alloc (.cells #[.int .i64 (x : Int)] 3)).grownBy w2 (Value.slice (some ⟨wr.heap.size, 0, none⟩) 1 1).ownBlock → Below wr.heap.size wr w2 := fun w2 h => keep_grown (below_alloc wr _) h hone
      have hfin : ∀ (v2 : Value) (w2 : World), w2.ownsRow wr.heap.size 3 1 v2 (1 + Lr) (iV ([(x : Int)] ++ zs (dg R0))) → ∃ A c, v2 = .slice A (1 + Lr) c ∧ Hid (Dl w2 w2.heap.size A (1 + Lr) c (x :: dg R0) ∧ Far wr.heap.size A) := fun v2 w2 h => by
        obtain ⟨A, c, e, hD, hF⟩ := own_dlf (x :: dg R0) (by rw [List.length_cons, ← hlr]; omega) h
        exact ⟨A, c, e, Lib.hid ⟨hD, hF⟩⟩
      have cT : ∀ (A : Option Addr) (c : Nat) (w2 : World), Dl w2 w2.heap.size A (1 + Lr) c (x :: dg R0) → Calls Tryz.prog 100 #[.slice A (1 + Lr) c] w2 fun e w' => (∃ L', e = .returned (.slice A L' c) ∧ Dl w2 w2.heap.size A L' c (dg (10 * R0 + x))) ∧ w' = w2 := fun A c w2 h => by
        have := trim_any A (1 + Lr) c w2.heap.size (x :: dg R0) hsm (by omega) w2 h
        rw [hv] at this; exact this
      have HQ := Lib.hid hQ; have HRW := Lib.hid hrow; have HBR := Lib.hid hbr; have HZ := Lib.hid hZ; have HOP := Lib.hid hop; have HRI := Lib.hid hri; have HONE := Lib.hid hone; have HBA := Lib.hid hba; have HGR := Lib.hid hgr; have HFIN := Lib.hid hfin; have CT := Lib.hid cT
      have HLR : Hid (Lr = (zs (dg R0)).length) := Lib.hid (by rw [zs_len]; exact hlr)
      have hR9 : Hid (R0 = m / 10 ^ (J + 1) % n) := Lib.hid hR0
      have hX9 : Hid (x = m / 10 ^ J % 10) := Lib.hid hx
      clear hQ hrow hbr hZ hop hri hone hba hgr hfin cT hx hR0 hlr hsm hv hr HT x9 hz
      go_wp2_with (first
        | (at_builtin; refine wpList_append_ints rfl _ _ 40 Tryz.underlying40 rfl wr.heap.size _ 1 [(x : Int)] rfl HONE.out Ar Lr cr (zs (dg R0)) rfl HLR.out HRI.out (by omega) HBA.out ?_; intro v2 w2 hown2 hgrow2; have hb2 := HGR.out w2 hgrow2; obtain ⟨A3, c3, rfl, HD3⟩ := HFIN.out v2 w2 hown2; clear hown2 hgrow2)
        | (go_at_call 100; (with_reducible refine (CT.out _ _ _ HD3.out.1).mono ?_); rintro e w' ⟨⟨L3, rfl, hD3⟩, rfl⟩)
        | fail)
      have HD4 := Lib.hid hD3; have HB2 := Lib.hid hb2
      clear hD3 hb2 a5 a6 a7
      go_loopg [7] (10 * R0 + x) (fun kx vr wr2 => ∃ (c R : Nat) (Ar : Option Addr) (Lr cr : Nat) (Q : List Nat), vr = .slice Ar Lr cr ∧ R ≤ kx ∧ Q.length = L1 ∧ Hid (DivIn m n J c R Q) ∧ Dl wr2 wr2.heap.size Ar Lr cr (dg R) ∧ Far (w.heap.size + 1) Ar ∧ IRow wr2 w.heap.size (zs Q) ∧ Below w.heap.size w wr2)
      case atStart =>
        refine ⟨0, 10 * R0 + x, A3, L3, c3, Q, rfl, Nat.le_refl _, HQ.out, Lib.hid ?_, HD4.out, HD3.out.2.less HRW.out.lies, HRW.out.under HB2.out HRW.out.lies, below_step HBR.out HB2.out⟩
        have := HOP.out
        rw [hX9.out] at this ⊢
        exact this
      case round =>
        obtain ⟨c, R, Ar, Lr, cr, Q, rfl, hkx, hQ, HI, hr, hfar, hrow, hbr⟩ := hrel
        have hrl : Lr ≤ L2 + 1 := dl_r hr H2.out (div_bound HI.out HN.out)
        have h2r := (H2.out.below hbr).more (B' := wr.heap.size) hbr.size
        have cO := order_any Ar A2 Lr cr R L2 c2 n (by omega) (by omega) wr hr h2r
        obtain ⟨v, hv⟩ : ∃ v, v = ordN R n := ⟨_, rfl⟩
        rw [← hv] at cO
        have HRW := Lib.hid hrow; have HBR := Lib.hid hbr; have HR := Lib.hid hr; have H2R := Lib.hid h2r; have CO := Lib.hid cO; have HQ := Lib.hid hQ; have HFAR := Lib.hid hfar
        by_cases hlt : R < n
        · have hv2 : ¬ (0 : Int) ≤ v := by rw [hv, ord_lt hlt]; omega
          have hsh := div_shut HI.out hlt
          have HSH := Lib.hid hsh
          obtain ⟨Z, hZ, a5, a6, a7⟩ := less_facts J (by omega)
          have HZ := Lib.hid hZ
          clear hv hrow hbr hr h2r cO hQ hfar hsh hZ
          go_wp2_with (first
            | (go_at_call 81; (with_reducible refine CO.out.mono ?_); rintro e w3 ⟨rfl, hb3⟩)
            | fail)
          clear a5 a6 a7
          go_roundw
          case rel =>
            refine ⟨J, Z, Ar, Lr, cr, Q, rfl, by rw [HZ.out]; omega, by omega, rfl, HQ.out, Lib.hid HSH.out.1, ?_, HRW.out.under hb3 HRW.out.lies, below_step HBR.out hb3⟩
            rw [← HSH.out.2]
            exact HR.out.kept hb3
          case measure => rw [intOf, intOf, HZ.out]; omega
        · have hv2 : (0 : Int) ≤ v := by
            rcases Nat.lt_or_ge n R with h | h
            · rw [hv, ord_gt h]; omega
            · rw [hv, ord_eq (by omega)]; omega
          have hc9 := div_less HI.out HN.out (by omega)
          have htk := div_take HI.out HN.out (by omega)
          have hat := HI.out.2.2.2.1
          have cM := fun W (h1 : Dl W W.heap.size Ar Lr cr (dg R)) (h2 : Dl W W.heap.size A2 L2 c2 (dg n)) => rminus_any Ar A2 Lr cr R L2 c2 n (by omega) (by omega) (by omega) W h1 h2
          have CM := Lib.hid cM; have HTK := Lib.hid htk; have HAT := Lib.hid hat
          have hlen : Hid ((Q.set J (c + 1)).length = L1) := Lib.hid (by rw [List.length_set]; exact hQ)
          have hmeas : Hid (R - n < gk) := Lib.hid (by have := HN.out; omega)
          obtain ⟨C1, hC1⟩ : ∃ C1 : Int, C1 = ((c + 1 : Nat) : Int) := ⟨_, rfl⟩
          have a1 : IntKind.i64.wrap ((c : Int) + 1) = C1 := by rw [show (c : Int) + 1 = C1 by omega]; exact i64_in _ (by omega) (by omega)
          have a2 : wrap64 C1 = C1 := w64_in _ (by omega) (by omega)
          have HC1 := Lib.hid hC1
          clear hv hrow hbr hr h2r cO hQ hfar cM htk hat hC1 hc9 hkx
          have J9 : Hid (J < L1) := Lib.hid (by omega)
          go_wp2_with (first
            | (go_at_call 81; (with_reducible refine CO.out.mono ?_); rintro e w3 ⟨rfl, hb3⟩)
            | (go_at_call 80; (with_reducible refine (CM.out _ (HR.out.kept hb3) (H2R.out.kept hb3)).mono ?_); rintro e w4 ⟨A4, L4, c4, rfl, hD4, hF4, hb4⟩; have hb34 := below_step hb3 hb4; have hrw4 := HRW.out.under hb34 HRW.out.lies; have k3 := hrw4.nth HAT.out; have hff := hrw4.frees J; have HD5 := Lib.hid hD4; have HF5 := Lib.hid hF4; have HB34 := Lib.hid hb34; have HRW4 := Lib.hid hrw4; have HB3 := Lib.hid hb3; clear hD4 hF4 hb34 hrw4 hb4 hb3)
            | fail)
          clear a1 a2
          go_roundg (R - n)
          case measure => exact hmeas.out
          case rel =>
            refine ⟨c + 1, R - n, A4, L4, c4, Q.set J (c + 1), rfl, Nat.le_refl _, hlen.out, HTK, ?_, HF5.out.less (Nat.le_trans (HRW.out.under HB3.out HRW.out.lies).lies (Nat.le_refl _)), HRW4.out.put J (c + 1) HC1.out, (below_step HBR.out HB34.out).setCell (p := ⟨w.heap.size, J, none⟩) (Nat.le_refl _) _⟩
            rw [size_set]
            exact HD5.out.aside (HF5.out.less (HRW.out.under HB3.out HRW.out.lies).lies) _
end Go.Proofs.YtgpncnnlhhmjaaaGreatDoor
