/- readNatural reads the digits of a natural. -/
import Derived.Test.YtgpncnnlhhmjaaaGreatDoorText
namespace Go.Proofs.YtgpncnnlhhmjaaaGreatDoor
open Go.RowKit

set_option maxRecDepth 100000 in
set_option maxHeartbeats 8000000 in
theorem read_any (s : ByteArray) (hd : s.data.toList.all dig = true) (h0 : 0 < s.size) (hm : s.size ≤ 400) (w : World) :
    Calls Tryz.prog 125 #[.string s] w fun e w' => ∃ A L c, e = .returned (.slice A L c) ∧ Nt w' w'.heap.size A L c (val s.data.toList) ∧ Below w.heap.size w w' := by
  obtain ⟨L, hL⟩ : ∃ L, L = s.size := ⟨_, rfl⟩
  obtain ⟨l, hl⟩ : ∃ l, l = s.data.toList := ⟨_, rfl⟩
  have hlen : l.length = L := by rw [hl, hL]; exact Array.length_toList
  obtain ⟨m, hmm⟩ : ∃ m, m = (L + 3) / 4 := ⟨_, rfl⟩
  have hmk := make_ints m (by omega)
  obtain ⟨v1, w2, hr1, hO, hb2⟩ := run_bytes (w.alloc (.cells (iV (List.replicate m 0)).toArray 3)) s (by omega)
  obtain ⟨g, cap, rfl, hg1, hg2, hg3, hg4, hg5, _, hcell⟩ := hO
  have hsz1 : (w.alloc (.cells (iV (List.replicate m 0)).toArray 3)).heap.size = w.heap.size + 1 := by simp
  rw [hsz1] at hg1 hb2
  have hb12 : Below w.heap.size w w2 := (below_alloc w _).trans (hb2.mono (by omega))
  have hrow : IRow w2 w.heap.size (List.replicate m 0) := (Row.made w 3 _).below hb2 (by omega)
  rw [← hl] at hcell hd ⊢
  rw [← hL] at hr1 hg3 hg4 h0 hm
  have eq2 : ((L : Int) + 4 - 1) / 4 = (m : Int) := by omega
  have hm101 : m ≤ 101 := by omega
  have es : (s.size : Int) = (L : Int) := by omega
  have HL := Lib.hid hL; have HLS := Lib.hid hlen; have HM := Lib.hid hmm; have HC := Lib.hid hcell; have HD := Lib.hid hd; have HB := Lib.hid hb12; have HR := Lib.hid hrow
  clear hL hl hlen hmm hcell hd hb12 hb2 hrow hg3 hsz1
  go_enter Tryz.func125, Tryz.ntmps125
  go_wp2
  clear eq2 hr1 hmk
  go_loopw [4, 5, 6, 7, 17] (fun _ _ _ _ p wr => ∃ (j : Nat) (C : List Int), p = .int .i64 j ∧ j ≤ L ∧ IRow wr w.heap.size C ∧ Hid (j < L → Fill L m j (val (l.take j)) C) ∧ Hid (j = L → gv C = (val l : Int) ∧ Gs C ∧ C.length = m) ∧
    Hid (∀ (t : Nat) (b : UInt8), l[t]? = some b → wr.cell? ⟨g, t, none⟩ = some (.int .u8 b.toNat)) ∧ Below w.heap.size w wr) (fun _ _ _ _ p _ => L - (intOf p).toNat)
  case atStart =>
    refine ⟨0, List.replicate m 0, rfl, by omega, HR.out, Lib.hid (fun h => ?_), Lib.hid (fun h => absurd h (by omega)), HC, HB.out⟩
    rw [List.take_zero]
    exact fill_start L m h0 HM.out
  case round =>
    obtain ⟨j, C, rfl, hj, hrow, HF, HE, HCC, hbr⟩ := hrel
    by_cases hlt : j < L
    · have hfill := HF.out hlt
      obtain ⟨hCl, x, hx, hx1⟩ := fill_at hfill hlt HM.out
      obtain ⟨d, hdj⟩ : ∃ d, l[j]? = some d := ⟨_, List.getElem?_eq_getElem (by rw [HLS.out]; exact hlt)⟩
      have hcd := HCC.out j d hdj
      have hdig := dig_ge (List.all_eq_true.1 HD.out d (List.mem_of_getElem? hdj))
      obtain ⟨D, hD⟩ : ∃ D, D = d.toNat - 48 := ⟨_, rfl⟩
      have hD9 : D < 10 := by omega
      obtain ⟨E0, hE0⟩ : ∃ E0, E0 = d.toNat := ⟨_, rfl⟩
      rw [← hE0] at hcd
      have wD : IntKind.u8.wrap ((E0 : Int) - 48) = (D : Int) := by rw [IntKind.wrap_u8]; omega
      have eD : ((E0 : Int) - 48) = (D : Int) := by omega
      obtain ⟨L1, hL1⟩ : ∃ L1, L1 = L - 1 := ⟨_, rfl⟩
      obtain ⟨Af, hAf⟩ : ∃ Af, Af = L1 - j := ⟨_, rfl⟩
      obtain ⟨E, hE⟩ : ∃ E, E = Af / 4 := ⟨_, rfl⟩
      obtain ⟨M1, hM1⟩ : ∃ M1, M1 = m - 1 := ⟨_, rfl⟩
      obtain ⟨K, hK⟩ : ∃ K, K = M1 - E := ⟨_, rfl⟩
      have hKe : m - 1 - (L - 1 - j) / 4 = K := by rw [hK, hM1, hE, hAf, hL1]
      have hmv := HM.out
      have a1 : ((L : Int) - 1) = (L1 : Int) := by omega
      have a2 : ((L1 : Int) - (j : Int)) = (Af : Int) := by omega
      have a3 : ((Af : Int) / 4) = (E : Int) := by omega
      have a4 : ((m : Int) - 1) = (M1 : Int) := by omega
      have a5 : ((M1 : Int) - (E : Int)) = (K : Int) := by omega
      have w1 : IntKind.i64.wrap ((L : Int) - 1) = (L1 : Int) := by rw [IntWalk.i64_in _ (by omega)]; omega
      have w2' : IntKind.i64.wrap ((L1 : Int) - (j : Int)) = (Af : Int) := by rw [IntWalk.i64_in _ (by omega)]; omega
      have w4 : IntKind.i64.wrap ((m : Int) - 1) = (M1 : Int) := by rw [IntWalk.i64_in _ (by omega)]; omega
      have w5 : IntKind.i64.wrap ((M1 : Int) - (E : Int)) = (K : Int) := by rw [IntWalk.i64_in _ (by omega)]; omega
      rw [hKe] at hx
      have hcx := hrow.at hx
      have hfx := hrow.frees K
      have hKm : (K : Int) < (m : Int) := by omega
      have hK0 : (0 : Int) ≤ (K : Int) := by omega
      obtain ⟨X, hX⟩ : ∃ X, X = x * 10 + D := ⟨_, rfl⟩
      have hv : val (l.take (j + 1)) = val (l.take j) * 10 + D := by rw [List.take_add_one, hdj, hD]; exact val_snoc _ _
      have a6 : (x : Int) * 10 + (D : Int) = (X : Int) := by omega
      have jl : (j : Int) < (L : Int) := by omega
      have hstep : (j + 1 < L → Fill L m (j + 1) (val (l.take (j + 1))) (C.set K (X : Int))) := fun h => by
        have := fill_step hfill h HM.out hD9 (by rw [hKe]; exact hx)
        rw [hKe, ← hX, ← hv] at this
        exact this
      have hlast : (j + 1 = L → gv (C.set K (X : Int)) = (val l : Int) ∧ Gs (C.set K (X : Int)) ∧ (C.set K (X : Int)).length = m) := fun h => by
        have := fill_last hfill h HM.out hD9 (by rw [hKe]; exact hx)
        rw [hKe, ← hX, ← hv, h, List.take_of_length_le (by rw [HLS.out]; exact Nat.le_refl _)] at this
        exact ⟨this.1, this.2, by rw [List.length_set]; exact hCl⟩
      have hkeep : ∀ (t : Nat) (b : UInt8), l[t]? = some b → (wr.setCell ⟨w.heap.size, K, none⟩ (.int .i64 (X : Int))).cell? ⟨g, t, none⟩ = some (.int .u8 b.toNat) := fun t b hb => by
        rw [World.cell?_setCell_other _ _ _ _ (by have hne : ¬ g = w.heap.size := by omega
                                                  simp [hne])]
        exact HCC.out t b hb
      have HSTEP := Lib.hid hstep; have HLAST := Lib.hid hlast; have HKEEP := Lib.hid hkeep; have HRW := Lib.hid hrow; have HBR := Lib.hid hbr; have HHX := Lib.hid hX; have HE2 := Lib.hid hE; have HAf := Lib.hid hAf
      clear hfill hCl hx hdj hdig hD hE0 hL1 hAf hE hM1 hK hKe hmv hX hv hstep hlast hkeep hrow hbr HF HE HCC
      go_wp2
      go_roundw
      case rel => exact ⟨j + 1, C.set K (X : Int), by go_num, by omega, HRW.out.stored K (X : Int), HSTEP, HLAST, HKEEP, HBR.out.setCell (p := ⟨w.heap.size, K, none⟩) (Nat.le_refl _) _⟩
      case measure => simp [intOf]; omega
    · obtain rfl : j = L := by omega
      have hfin := HE.out rfl
      have hc := carry_any w.heap.size m C hfin.2.2.symm (by omega) (fun c hc => by have := hfin.2.1 c hc; omega) (by rw [hfin.1]; omega) (by rw [← hfin.2.2]; exact (gv_lt hfin.2.1).2) wr hrow
      rw [hfin.1, Int.toNat_natCast] at hc
      have HCR := Lib.hid hc; have HBR := Lib.hid hbr; have HLI := Lib.hid hrow.lies
      clear hfin hc hrow hbr HF HE HCC
      go_wp2_with (first | (go_at_call 130; (refine HCR.out.mono ?_); rintro e w' ⟨A, L, c, rfl, hN, hb⟩) | fail)
      go_ret
      exact ⟨A, L, c, rfl, hN.more (Nat.lt_of_lt_of_le HLI.out hb.size), HBR.out.trans hb⟩
end Go.Proofs.YtgpncnnlhhmjaaaGreatDoor
