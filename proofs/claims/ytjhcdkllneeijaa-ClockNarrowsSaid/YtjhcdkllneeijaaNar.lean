/- The walk of ClockNarrows. -/
import Derived.Test.YtjhcdkllneeijaaNst
namespace Go.Proofs.Ytjhcdkllneeijaa
open Go.RowKit

set_option maxRecDepth 100000 in
set_option maxHeartbeats 16000000 in
theorem narrows_walk (drift start which by0 by1 l0 : Int) (rates : List Int) (RA : Option Addr) (rc : Nat) (l : List Rd) (LA : Option Addr) (lc : Nat) (b0 : In64 drift) (b1 : In64 start) (b2 : In64 which) (b3 : In64 by0) (b4 : In64 by1) (b5 : In64 l0) (hrr : ∀ r ∈ rates, In64 r) (hrn : rates.length ≤ 9223372036854775807)
    (hlr : ∀ r ∈ l, In64 r.1 ∧ In64 r.2.1 ∧ In64 r.2.2) (hln : l.length ≤ 9223372036854775807) (w : World) (hr : Nums w w.heap.size RA rates) (hl : Rds w w.heap.size LA l)
    (hsane : ∀ W : World, Calls Try.prog 10 #[] W fun e w' => e = .returned (.bool true) ∧ Below W.heap.size W w') :
    Calls Try.prog 6 #[.int .i64 drift, .int .i64 start, .slice RA rates.length rc, .slice LA l.length lc, .int .i64 which, .agg #[.int .i64 by0, .int .i64 by1], .int .i64 l0] w fun e w' => e = .returned (.bool true) ∧ Below w.heap.size w w' := by
  obtain ⟨i0, hi0, hz0, hz1, hz2⟩ := info_parts rd_info
  have r1 := pk_range (c := drift) (n := 101) (by omega)
  have p1 := fun W => pick_any l0 5000 b5.1 b5.2 (by omega) (by omega) W
  have r2 := pk_range (c := l0) (n := 5000) (by omega)
  generalize pk l0 5000 = q at *
  have p3 := fun W => pick_any by0 100 b3.1 b3.2 (by omega) (by omega) W
  have r3 := pk_range (c := by0) (n := 100) (by omega)
  generalize pk by0 100 = y0 at *
  have p4 := fun W => pick_any by1 100 b4.1 b4.2 (by omega) (by omega) W
  have r4 := pk_range (c := by1) (n := 100) (by omega)
  generalize pk by1 100 = y1 at *
  have hm := fun (W : World) (hb : Below w.heap.size w W) => k_made drift start rates RA rc l LA lc b0 b1 hrr hrn hlr hln W (hr.deep hb) ((hl.below hb).more hb.size)
  obtain ⟨R, hR⟩ : ∃ R, R = rates.length := ⟨_, rfl⟩
  obtain ⟨L, hL⟩ : ∃ L, L = l.length := ⟨_, rfl⟩
  rw [← hR, ← hL] at hm
  rw [← hR, ← hL]
  obtain ⟨D, hD⟩ : ∃ D, D = pk drift 101 := ⟨_, rfl⟩
  rw [← hD] at hm r1
  have hfac := fun (rs : List Rd) (h : Mok D start rates rs) => wide_facts r1.1 (show D ≤ 100 by omega) h r2.1 (show q ≤ 10000000 by omega)
  have hrng := fun (rs : List Rd) (h : Mok D start rates rs) => h.range r1.1 (show D ≤ 100 by omega)
  have P1 := Lib.hid p1; have P3 := Lib.hid p3; have P4 := Lib.hid p4; have HM := Lib.hid hm; have HS := Lib.hid hsane; have HF := Lib.hid hfac; have HR := Lib.hid hrng; have WB := Lib.hid b2
  obtain ⟨r1a, r1b⟩ := r1; obtain ⟨r2a, r2b⟩ := r2; obtain ⟨r3a, r3b⟩ := r3; obtain ⟨r4a, r4b⟩ := r4
  clear p1 p3 p4 hm hsane hfac hrng hR hL hD hrr hlr hr hl b0 b1 b2 b3 b4 b5 hrn hln
  go_enter Try.func6, Try.ntmps6
  go_upto_region 5 with (first
    | (go_at_call 10; (refine (HS.out _).mono ?_); rintro e w1 ⟨rfl, hb1⟩; have Y1 := Lib.hid (Row.below (Row.made w 48 #[.int .i64 by0, .int .i64 by1]) hb1 (by simp)); have B1 := Lib.hid (below_step (below_alloc w _) hb1); clear hb1)
    | (go_at_call 16; (refine (HM.out _ B1.out).mono ?_); rintro e w2 ⟨A, cap, N, rs, rfl, hN, hN12, hok, hrd, hb2⟩; obtain ⟨x, y, er, fa, fe, ff⟩ := HF.out rs hok; have FA := Lib.hid fa; have FE := Lib.hid fe; have FF := Lib.hid ff; have RG := Lib.hid (HR.out rs hok); have GD := Lib.hid hok.good; have hn : N ≤ 9223372036854775807 := (by omega); have Y2 := Lib.hid (Row.below Y1.out hb2 Y1.out.inside); have K3 := Lib.hid (Ck.box (d := D) (cap := cap) hrd hN _ rfl); have B3 := Lib.hid (keep_alloc (below_step B1.out hb2) (.cells #[.int .i64 D, .slice A N cap] 24)); obtain ⟨k0, k1, _, _⟩ := K3.out.eqs; have HN := Lib.hid hN; clear hb2 hok hrd hN fa fe ff))
  have hw2 := Y2.out.inside
  by_cases hN0 : N = 0
  · subst hN0
    go_wp2
    go_ret
    exact ⟨rfl, B3.out⟩
  · have hN0' : decide (N = 0) = false := decide_eq_false hN0
    have hN1 : ((N : Int) == 0) = false := by simpa using hN0
    have p2 := fun W => pick_any which (N : Int) WB.out.1 WB.out.2 (by omega) (by omega) W
    have r5 := pk_range (c := which) (n := (N : Int)) (by omega)
    obtain ⟨κ, hκ⟩ := Int.eq_ofNat_of_zero_le r5.1
    rw [hκ] at p2 r5
    have P2 := Lib.hid p2
    have hκN : κ < N := by omega
    clear p2 r5 hκ
    go_wp2_with (go_at_call 19; (first | (with_reducible refine (P1.out _).mono ?_) | (with_reducible refine (P2.out _).mono ?_)); rintro e wx ⟨rfl, hwx⟩; have hwx := hwx.symm; subst hwx)
    obtain ⟨W3, hW3⟩ : ∃ W3, W3 = w2.alloc (Obj.cells #[Value.int IntKind.i64 D, Value.slice A N cap] 24) := ⟨_, rfl⟩
    have z3 : W3.heap.size = w2.heap.size + 1 := by rw [hW3]; simp
    have k3 := K3.out
    have b3 := B3.out
    rw [← hW3] at k3 b3 ⊢
    have y3 : Row W3 w.heap.size 48 #[.int .i64 by0, .int .i64 by1] := by rw [hW3]; exact Y2.out.later _
    have K4 := Lib.hid k3; have B4 := Lib.hid b3; have Y4 := Lib.hid y3
    clear K3 B3 k3 b3 k0 k1 hW3 y3
    obtain ⟨W4, hW4⟩ : ∃ W4, W4 = (W3.alloc (Obj.cells #[Value.int IntKind.i64 D, Value.slice none 0 0] 24)).alloc (Obj.cells #[Value.int IntKind.i64 D, Value.slice none 0 0] 24) := ⟨_, rfl⟩
    have n4 : Nst W3 W4 (w2.heap.size + 1) D none 0 [] none 0 [] := by
      rw [hW4]
      exact ⟨by rw [← z3]; exact keep_alloc (below_alloc _ _) _, (Own1.new _ _ _ _ z3).later _, Own1.new _ _ _ _ (by simp; omega), (fun j h => by cases h), by simp; omega⟩
    rw [← hW4]
    have N4 := Lib.hid n4
    clear n4 hW4
    go_loopg [21, 22] N (fun kx s21 s22 wr => ∃ (k cF cV : Nat) (AF AV : Option Addr) (F V : List Rd), s21 = .int .i64 (k : Int) ∧ k + kx = N ∧ Nst W3 wr (w2.heap.size + 1) D AF cF F AV cV V ∧ Hid (Wid rs k F) ∧ Hid (Wid rs k V))
    case atStart => exact ⟨0, 0, 0, none, none, [], [], rfl, by omega, N4.out, Lib.hid (Wid.nil rs), Lib.hid (Wid.nil rs)⟩
    case round =>
      clear N4 HM HS P1 P2
      obtain ⟨k, cF, cV, AF, AV, F, V, rfl, hk, hn4, WF, WV⟩ := hrel
      have hbel := hn4.bel
      rw [← z3] at hbel
      have hK := K4.out.step hbel
      have hY := Row.below Y4.out hbel Y4.out.inside
      obtain ⟨c0, c1, _, _⟩ := hK.eqs
      by_cases hlt : k < N
      · obtain ⟨⟨q1, q2, q3⟩, hv⟩ : ∃ y, rs[k]? = some y := ⟨rs[k]'(by rw [← HN.out]; exact hlt), by simp⟩
        obtain ⟨rb, ro, hA, _, e0, e1, e2⟩ := hK.rds.at hv
        subst hA
        obtain ⟨g1, g2, g3, g4, g5⟩ := RG.out _ (List.mem_of_getElem? hv)
        dsimp only at e0 e1 e2 g1 g2 g3 g4 g5
        have HVV := Lib.hid hv; have NS := Lib.hid hn4; have YY := Lib.hid hY
        have szr := hn4.size
        clear hv hn4 hY hK hbel
        by_cases hkk : k = κ
        · subst hkk
          go_upto_region 17 with fail
          obtain ⟨W5, hW5⟩ : ∃ W5, W5 = wr.alloc (Obj.cells #[Value.int IntKind.i64 q1, Value.int IntKind.i64 q2, Value.int IntKind.i64 q3] 50) := ⟨_, rfl⟩
          rw [← hW5]
          have NS5 := Lib.hid (show Nst W3 W5 (w2.heap.size + 1) D AF cF F AV cV V by rw [hW5]; exact NS.out.later _)
          have RR5 := Lib.hid (show Row W5 wr.heap.size 50 #[.int .i64 q1, .int .i64 q2, .int .i64 q3] by rw [hW5]; exact Row.made _ _ _)
          have YY5 := Lib.hid (show Row W5 w.heap.size 48 #[.int .i64 by0, .int .i64 by1] by rw [hW5]; exact YY.out.later _)
          have hne1 : ob AF ≠ some wr.heap.size := fun e => by have := (NS.out.ltF e).2; omega
          have hne2 : ob AV ≠ some wr.heap.size := fun e => by have := (NS.out.ltV e).2; omega
          have hne3 : wr.heap.size ≠ w.heap.size := by omega
          obtain ⟨lo, hlo⟩ : ∃ lo, max (q2 - y0) 0 = lo := ⟨_, rfl⟩
          have hlo1 : 0 ≤ lo ∧ lo ≤ q2 := by omega
          have hwp1 : IntKind.i64.wrap (q2 - y0) = q2 - y0 := IntWalk.i64_in _ (by omega)
          have hwp2 : IntKind.i64.wrap (q3 + y1) = q3 + y1 := IntWalk.i64_in _ (by omega)
          clear hW5 c0 c1 e0 e1 e2
          obtain ⟨x0, x1, x2, x3, x4, x5⟩ := RR5.out.three
          obtain ⟨u0, u1, _, _⟩ := YY5.out.two
          go_cut [22] (fun s22 W => s22 = .pointer (some ⟨wr.heap.size, 0, none⟩) ∧ Row W wr.heap.size 50 #[.int .i64 q1, .int .i64 lo, .int .i64 q3] ∧ Nst W3 W (w2.heap.size + 1) D AF cF F AV cV V ∧ Row W w.heap.size 48 #[.int .i64 by0, .int .i64 by1])
          case first =>
            go_region_with (go_at_call 19; (with_reducible refine (P3.out _).mono ?_); rintro e wx ⟨rfl, hwx⟩; have hwx := hwx.symm; subst hwx)
            all_goals go_wp2_with fail
            all_goals go_meet
            all_goals (case rel => exact ⟨rfl, RR5.out.drawn.stored 1 (.int .i64 lo), NS5.out.drew.put szr hne1 hne2 1 _, YY5.out.drawn.aside hne3 _⟩)
          case rest =>
            obtain ⟨rfl, rr, nst, yy⟩ := hcut
            obtain ⟨w5, hw5⟩ : ∃ w5, w5 = wc := ⟨_, rfl⟩
            rw [← hw5] at rr nst yy ⊢
            clear hw5 RR5 NS5 YY5 x0 x1 x2 x3 x4 x5 u0 u1
            have RR5 := Lib.hid rr; have NS5 := Lib.hid nst; have YY5 := Lib.hid yy
            obtain ⟨x0, x1, x2, x3, x4, x5⟩ := rr.three
            obtain ⟨u0, u1, _, _⟩ := yy.two
            clear rr nst yy
            go_wp2
            go_cut [22] (fun s22 W => s22 = .pointer (some ⟨wr.heap.size, 0, none⟩) ∧ Row W wr.heap.size 50 #[.int .i64 q1, .int .i64 lo, .int .i64 (q3 + y1)] ∧ Nst W3 W (w2.heap.size + 1) D AF cF F AV cV V)
            case first =>
              go_region_with (go_at_call 19; (with_reducible refine (P4.out _).mono ?_); rintro e wx ⟨rfl, hwx⟩; have hwx := hwx.symm; subst hwx)
              all_goals go_wp2_with fail
              all_goals go_meet
              all_goals (case rel => exact ⟨rfl, RR5.out.drawn.stored 2 (.int .i64 (q3 + y1)), NS5.out.drew.put szr hne1 hne2 2 _⟩)
            case rest =>
              obtain ⟨rfl, rr, nst⟩ := hcut
              obtain ⟨w6, hw6⟩ : ∃ w6, w6 = wc := ⟨_, rfl⟩
              rw [← hw6] at rr nst ⊢
              clear hw6 RR5 NS5 YY5 x0 x1 x2 x3 x4 x5 u0 u1
              have RR6 := Lib.hid rr; have NS6 := Lib.hid nst
              clear rr nst
              have szz := NS6.out.size
              obtain ⟨x0, x1, x2, _, _, _⟩ := RR6.out.three
              obtain ⟨y4, y5, _, _⟩ := NS6.out.v.row.two
              have ov := NS6.out.v.own
              obtain ⟨nV, hnV⟩ : ∃ nV, nV = V.length := ⟨_, rfl⟩
              have hnV12 : nV ≤ 12 := by have := WV.out.len; omega
              rw [← hnV] at y5 ov
              have OV := Lib.hid ov; have HNV := Lib.hid hnV
              clear ov hnV
              go_wp2_with (at_builtin; refine wpList_append_lies _ rfl _ _ 22 rfl (w2.heap.size + 1 + 2) 50 i0 (.agg #[.int .i64 0, .int .i64 0, .int .i64 0]) 3 24 Try.underlying22 hi0 hz0 hz1 hz2 rfl (by decide) _ _ _ rfl (OV.out.alloc _) ⟨w6.heap.size, 0, none⟩ 1 1 [.int .i64 q1, .int .i64 lo, .int .i64 (q3 + y1)] rfl rfl (three_new w6 _ _ _ _) (by simp [Value.oneCell']) (by decide) (by unfold maxLen; omega) (by omega) (by simp; omega) (w6.heap.size + 1) (by simp) ?_; intro g' cap2 w9 hown' hgrow hat hlt9; have nx := Nst.pushV (r := (q1, lo, q3 + y1)) (Nst.later NS6.out _) HNV.out hgrow hown' hat (by simp); obtain ⟨n1, n2⟩ := nx; obtain ⟨_, _, n3, n4⟩ := n1.two; have N2 := Lib.hid n2; clear hown' hgrow n1 n2 hat hlt9)
              go_roundg (N - (k + 1))
              case measure => omega
              case rel => exact ⟨k + 1, _, _, _, _, _, _, by go_num, by omega, N2.out, Lib.hid WF.out.skip, Lib.hid (WV.out.push GD.out HVV.out rfl (by dsimp only; omega) (by dsimp only; omega) (by dsimp only; omega) (by dsimp only; omega))⟩
        · have hkk' : decide ((k : Int) = (κ : Int)) = false := decide_eq_false (by omega)
          have hkk2 : ((k : Int) != (κ : Int)) = true := by simp; omega
          have hkk3 : decide (k = κ) = false := decide_eq_false hkk
          obtain ⟨nF, hnF⟩ : ∃ nF, nF = F.length := ⟨_, rfl⟩
          have hnF12 : nF ≤ 12 := by have := WF.out.len; omega
          go_upto_region 16 with fail
          obtain ⟨W5, hW5⟩ : ∃ W5, W5 = wr.alloc (Obj.cells #[Value.int IntKind.i64 q1, Value.int IntKind.i64 q2, Value.int IntKind.i64 q3] 50) := ⟨_, rfl⟩
          rw [← hW5]
          have NS5 := Lib.hid (show Nst W3 W5 (w2.heap.size + 1) D AF cF F AV cV V by rw [hW5]; exact NS.out.later _)
          have rr5 : Row W5 wr.heap.size 50 #[.int .i64 q1, .int .i64 q2, .int .i64 q3] := by rw [hW5]; exact Row.made _ _ _
          have hne1 : ob AF ≠ some wr.heap.size := fun e => by have := (NS.out.ltF e).2; omega
          clear hW5 c0 c1 e0 e1 e2
          have sz5 := NS5.out.size
          obtain ⟨x0, x1, x2, x3, x4, x5⟩ := rr5.three
          obtain ⟨u0, u1, u2, u3⟩ := NS5.out.f.row.two
          have of := NS5.out.f.own
          rw [← hnF] at u1 of
          have hne9 : (Value.slice AF nF cF).ownBlock ≠ some wr.heap.size := by rw [ob_own]; exact hne1
          have OF := Lib.hid of; have HNF := Lib.hid hnF; have RR5 := Lib.hid rr5
          clear of hnF rr5
          go_upto_region 19 with (at_builtin; refine wpList_append_lies _ rfl _ _ 22 rfl (w2.heap.size + 1 + 2) 50 i0 (.agg #[.int .i64 0, .int .i64 0, .int .i64 0]) 3 24 Try.underlying22 hi0 hz0 hz1 hz2 rfl (by decide) _ _ _ rfl (OF.out.alloc _) ⟨W5.heap.size, 0, none⟩ 1 1 [.int .i64 q1, .int .i64 q2, .int .i64 q3] rfl rfl (three_new W5 _ _ _ _) (by simp [Value.oneCell']) (by decide) (by unfold maxLen; omega) (by omega) (by simp; omega) (W5.heap.size + 1) (by simp) ?_; intro g' cap2 w9 hown' hgrow hat hlt9; have nx := Nst.pushF (r := (q1, q2, q3)) (Nst.later NS5.out _) HNF.out hgrow hown' hat (by simp); obtain ⟨n1, n2⟩ := nx; obtain ⟨_, _, n3, n4⟩ := n1.two; have rr6 : Row (w9.setCell ⟨w2.heap.size + 1, 1, none⟩ (.slice (some ⟨g', 0, none⟩) (nF + 1) cap2)) wr.heap.size 50 #[.int .i64 q1, .int .i64 q2, .int .i64 q3] := ((RR5.out.later _).grown hgrow (fun e => hne9 e.symm)).aside (p := ⟨w2.heap.size + 1, 1, none⟩) (by show w2.heap.size + 1 ≠ wr.heap.size; omega) _; have NS7 := Lib.hid n2; have RR7 := Lib.hid rr6; clear hown' hgrow n1 n2 hat hlt9 rr6)
          obtain ⟨W6, hW6⟩ : ∃ W6, W6 = w9.setCell ⟨w2.heap.size + 1, 1, none⟩ (.slice (some ⟨g', 0, none⟩) (nF + 1) cap2) := ⟨_, rfl⟩
          have ns7 := NS7.out
          have rr7 := RR7.out
          rw [← hW6] at ns7 rr7 ⊢
          have NS6 := Lib.hid ns7; have RR6 := Lib.hid rr7
          clear ns7 rr7 NS7 RR7 hW6 x0 x1 x2 x3 x4 x5 u0 u1 u2 u3 n3 n4
          have szz := NS6.out.size
          obtain ⟨x0, x1, x2, _, _, _⟩ := RR6.out.three
          obtain ⟨y4, y5, _, _⟩ := NS6.out.v.row.two
          have ov := NS6.out.v.own
          obtain ⟨nV, hnV⟩ : ∃ nV, nV = V.length := ⟨_, rfl⟩
          have hnV12 : nV ≤ 12 := by have := WV.out.len; omega
          rw [← hnV] at y5 ov
          have OV := Lib.hid ov; have HNV := Lib.hid hnV
          clear ov hnV
          go_wp2_with (at_builtin; refine wpList_append_lies _ rfl _ _ 22 rfl (w2.heap.size + 1 + 2) 50 i0 (.agg #[.int .i64 0, .int .i64 0, .int .i64 0]) 3 24 Try.underlying22 hi0 hz0 hz1 hz2 rfl (by decide) _ _ _ rfl (OV.out.alloc _) ⟨W6.heap.size, 0, none⟩ 1 1 [.int .i64 q1, .int .i64 q2, .int .i64 q3] rfl rfl (three_new W6 _ _ _ _) (by simp [Value.oneCell']) (by decide) (by unfold maxLen; omega) (by omega) (by simp; omega) (W6.heap.size + 1) (by simp) ?_; intro g' cap2 w9 hown' hgrow hat hlt9; have nx := Nst.pushV (r := (q1, q2, q3)) (Nst.later NS6.out _) HNV.out hgrow hown' hat (by simp); obtain ⟨n1, n2⟩ := nx; obtain ⟨_, _, n3, n4⟩ := n1.two; have N2 := Lib.hid n2; clear hown' hgrow n1 n2 hat hlt9)
          go_roundg (N - (k + 1))
          case measure => omega
          case rel => exact ⟨k + 1, _, _, _, _, _, _, by go_num, by omega, N2.out, Lib.hid (WF.out.push GD.out HVV.out rfl (by dsimp only; omega) (by dsimp only; omega) (by dsimp only; omega) (by dsimp only; omega)), Lib.hid (WV.out.push GD.out HVV.out rfl (by dsimp only; omega) (by dsimp only; omega) (by dsimp only; omega) (by dsimp only; omega))⟩
      · obtain rfl : k = N := by omega
        obtain ⟨a1, a2, f1, fA, fP⟩ := FF.out F (by rw [← HN.out]; exact WF.out)
        obtain ⟨c2, c3, f2, fB, fQ⟩ := FF.out V (by rw [← HN.out]; exact WV.out)
        have ckF := hn4.f.ck
        have ckV := hn4.v.ck
        obtain ⟨nF, hnF⟩ : ∃ nF, nF = F.length := ⟨_, rfl⟩
        obtain ⟨nV, hnV⟩ : ∃ nV, nV = V.length := ⟨_, rfl⟩
        have lF := WF.out.len
        have lV := WV.out.len
        rw [← hnF] at ckF lF
        rw [← hnV] at ckV lV
        have hnf : nF ≤ 9223372036854775807 := by omega
        have hnv : nV ≤ 9223372036854775807 := by omega
        obtain ⟨d0, d1, _, _⟩ := ckF.eqs
        obtain ⟨d2, d3, _, _⟩ := ckV.eqs
        have HB := Lib.hid (B4.out.trans (hbel.mono B4.out.size))
        have CK := Lib.hid hK; have CF := Lib.hid ckF; have CV := Lib.hid ckV; have HA := Lib.hid fA; have HBB := Lib.hid fB
        clear hn4 hbel hK ckF ckV fA fB hY hnF hnV
        go_upto_region 23 with (go_at_call 20; (first
          | ((with_reducible refine (k_at hn FA.out CK.out).mono ?_); rintro e w7 ⟨rfl, hb7⟩; have CF7 := Lib.hid (CF.out.step hb7); have CV7 := Lib.hid (CV.out.step hb7); have B7 := Lib.hid (below_step HB.out hb7); obtain ⟨v0, v1, _, _⟩ := CF7.out.eqs; obtain ⟨v2, v3, _, _⟩ := CV7.out.eqs; clear hb7)
          | ((with_reducible refine (k_at hnf HA.out CF7.out).mono ?_); rintro e w8 ⟨rfl, hb8⟩; have CV8 := Lib.hid (CV7.out.step hb8); have B8 := Lib.hid (below_step B7.out hb8); obtain ⟨v4, v5, _, _⟩ := CV8.out.eqs; clear hb8)
          | ((with_reducible refine (k_at hnv HBB.out CV8.out).mono ?_); rintro e w9 ⟨rfl, hb9⟩; have B9 := Lib.hid (below_step B8.out hb9); clear hb9)))
        by_cases z : er = 0
        · subst z
          obtain ⟨rfl, t1, t2⟩ := fP rfl
          obtain ⟨rfl, t3, t4⟩ := fQ rfl
          clear fP fQ
          go_wp2
          all_goals go_ret
          all_goals exact ⟨rfl, B9.out⟩
        · obtain ⟨rfl, rfl⟩ := FE.out z
          have z1 : decide (er = 0) = false := decide_eq_false z
          have z2 : (er == 0) = false := by simpa using z
          clear fP fQ
          go_wp2
          all_goals go_ret
          all_goals exact ⟨rfl, B9.out⟩
end Go.Proofs.Ytjhcdkllneeijaa
