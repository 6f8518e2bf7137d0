/- The walk of ClockMatchesReference. -/
import Derived.Test.YtjhcdkllneeijaaFew
import Derived.Test.YtjhcdkllneeijaaRre
import Derived.Test.YtjhcdkllneeijaaRaw
import Derived.Test.YtjhcdkllneeijaaAgw
namespace Go.Proofs.Ytjhcdkllneeijaa
open Go.RowKit

/-- Two clocks in a row of four cells, and their readings. -/
structure Two (W : World) (g : Nat) (d0 : Int) (A0 : Option Addr) (N0 c0 : Nat) (rs0 : List Rd) (d1 : Int) (A1 : Option Addr) (N1 c1 : Nat) (rs1 : List Rd) : Prop where
  row : Row W g 24 #[.int .i64 d0, .slice A0 N0 c0, .int .i64 d1, .slice A1 N1 c1]
  r0 : Rds W W.heap.size A0 rs0
  r1 : Rds W W.heap.size A1 rs1
  n0 : N0 = rs0.length
  n1 : N1 = rs1.length
section
variable {W W' : World} {g N0 c0 N1 c1 : Nat} {d0 d1 : Int} {A0 A1 : Option Addr} {rs0 rs1 : List Rd}
theorem Two.step (h : Two W g d0 A0 N0 c0 rs0 d1 A1 N1 c1 rs1) (b : Below W.heap.size W W') : Two W' g d0 A0 N0 c0 rs0 d1 A1 N1 c1 rs1 :=
  ⟨Row.below h.row b h.row.inside, h.r0.deep b, h.r1.deep b, h.n0, h.n1⟩
theorem Two.pick (h : Two W g d0 A0 N0 c0 rs0 d1 A1 N1 c1 rs1) {i : Nat} (hi : i < 2) (b0 : N0 ≤ 9223372036854775807) (b1 : N1 ≤ 9223372036854775807) : ∃ (d : Int) (A : Option Addr) (N c : Nat) (rs : List Rd), W.cell? ⟨g, i * 2, none⟩ = some (.int .i64 d) ∧ W.cell? ⟨g, i * 2 + 1, none⟩ = some (.slice A N c) ∧ Rds W W.heap.size A rs ∧ N = rs.length ∧ N ≤ 9223372036854775807 := by
  match i, hi with
  | 0, _ => exact ⟨d0, A0, N0, c0, rs0, h.row.at rfl, h.row.at rfl, h.r0, h.n0, b0⟩
  | 1, _ => exact ⟨d1, A1, N1, c1, rs1, h.row.at rfl, h.row.at rfl, h.r1, h.n1, b1⟩
end
/-- A row of two numbers, at either place. -/
theorem Row.pick2 {W : World} {g : Nat} {t : TypeId} {a b : Int} (h : Row W g t #[.int .i64 a, .int .i64 b]) {k : Nat} (hk : k < 2) : W.cell? ⟨g, k, none⟩ = some (.int .i64 (if k = 0 then a else b)) := by
  match k, hk with
  | 0, _ => exact h.at rfl
  | 1, _ => exact h.at rfl
section
variable {W : World} {g N cap : Nat} {d : Int} {A : Option Addr} {rs : List Rd}
theorem kr_at {l x y z : Int} (hn : N ≤ 9223372036854775807) (hv : atS d rs l = (x, y, z)) (h : Ck W g d A N cap rs) :
    Calls Try.prog 21 #[.agg #[.int .i64 d, .slice A N cap], .int .i64 l] W fun e w' => e = .returned (.tuple #[.int .i64 x, .int .i64 y, .int .i64 z]) ∧ Below W.heap.size W w' := by
  obtain ⟨_, hr, rfl⟩ := h
  have := rat_any d rs A cap l hn W hr
  rw [hv] at this; exact this
theorem kr_reads {l x y z : Int} (hn : N ≤ 9223372036854775807) (hv : readsS d rs l = (x, y, z)) (h : Ck W g d A N cap rs) :
    Calls Try.prog 23 #[.agg #[.int .i64 d, .slice A N cap], .int .i64 l] W fun e w' => e = .returned (.tuple #[.int .i64 x, .int .i64 y, .int .i64 z]) ∧ Below W.heap.size W w' := by
  obtain ⟨_, hr, rfl⟩ := h
  have := rreads_any d rs A cap l hn W hr
  rw [hv] at this; exact this
theorem kr_before {l t : Int} {b : Bool} (hn : N ≤ 9223372036854775807) (hv : beforeS d rs l t = b) (h : Ck W g d A N cap rs) :
    Calls Try.prog 25 #[.agg #[.int .i64 d, .slice A N cap], .int .i64 l, .int .i64 t] W fun e w' => e = .returned (.bool b) ∧ Below W.heap.size W w' := by
  obtain ⟨_, hr, rfl⟩ := h
  have := rbefore_any d rs A cap l t hn W hr
  rw [hv] at this; exact this
theorem kr_after {l t : Int} {b : Bool} (hn : N ≤ 9223372036854775807) (hv : afterS d rs l t = b) (h : Ck W g d A N cap rs) :
    Calls Try.prog 27 #[.agg #[.int .i64 d, .slice A N cap], .int .i64 l, .int .i64 t] W fun e w' => e = .returned (.bool b) ∧ Below W.heap.size W w' := by
  obtain ⟨_, hr, rfl⟩ := h
  have := rafter_any d rs A cap l t hn W hr
  rw [hv] at this; exact this
theorem kr_valid {b : Bool} (hn : N ≤ 9223372036854775807) (hv : validB d rs = b) (h : Ck W g d A N cap rs) :
    Calls Try.prog 18 #[.agg #[.int .i64 d, .slice A N cap]] W fun e w' => e = .returned (.bool b) ∧ Below W.heap.size W w' := by
  obtain ⟨_, hr, rfl⟩ := h
  have := rvalid_any d rs A cap hn W hr
  rw [hv] at this; exact this
end

set_option maxRecDepth 100000 in
set_option maxHeartbeats 16000000 in
theorem matches_walk (dr : Int) (CA : Option Addr) (cc : Nat) (crs : List Rd) (drift start local' t : Int) (rates : List Int) (RA : Option Addr) (rc : Nat) (at' : List Rd) (TA : Option Addr) (tc : Nat) (l : List (Int × Int)) (SA : Option Addr) (sc : Nat)
    (hcap : crs.length ≤ cc ∧ cc ≤ 9223372036854775807) (b0 : In64 drift) (b1 : In64 start) (b2 : In64 local') (b3 : In64 t) (hrr : ∀ r ∈ rates, In64 r) (hrn : rates.length ≤ 9223372036854775807)
    (hlr : ∀ r ∈ at', In64 r.1 ∧ In64 r.2.1 ∧ In64 r.2.2) (hln : at'.length ≤ 9223372036854775807) (hscap : l.length ≤ sc ∧ sc ≤ 9223372036854775807) (w : World) (hc : Rds w w.heap.size CA crs) (hr : Nums w w.heap.size RA rates) (hl : Rds w w.heap.size TA at') (hsp : Sps w w.heap.size SA l)
    (hsane : ∀ W : World, Calls Try.prog 10 #[] W fun e w' => e = .returned (.bool true) ∧ Below W.heap.size W w') :
    Calls Try.prog 3 #[.agg #[.int .i64 dr, .slice CA crs.length cc], .int .i64 drift, .int .i64 start, .slice RA rates.length rc, .slice TA at'.length tc, .int .i64 local', .int .i64 t, .slice SA l.length sc] w fun e w' => e = .returned (.bool true) ∧ Below w.heap.size w w' := by
  -- what the prefix calls
  have hm := fun (W : World) (hb : Below w.heap.size w W) => k_made drift start rates RA rc at' TA tc b0 b1 hrr hrn hlr hln W (hr.deep hb) ((hl.below hb).more hb.size)
  obtain ⟨R, hR⟩ : ∃ R, R = rates.length := ⟨_, rfl⟩
  obtain ⟨T, hT⟩ : ∃ T, T = at'.length := ⟨_, rfl⟩
  rw [← hR, ← hT] at hm
  rw [← hR, ← hT]
  obtain ⟨D, hD⟩ : ∃ D, D = pk drift 101 := ⟨_, rfl⟩
  rw [← hD] at hm
  obtain ⟨L, hL⟩ : ∃ L, L = l.length := ⟨_, rfl⟩
  obtain ⟨M, hM⟩ : ∃ M, M = min L 20 := ⟨_, rfl⟩
  obtain ⟨l2, hl2⟩ : ∃ l2, l2 = l.take M := ⟨_, rfl⟩
  have hlM : M = l2.length := by rw [hl2, List.length_take]; omega
  have eM : ∀ (ts : Array TypeId) (t : TypeId) (W : World), (Builtin.min_ ts t #[.int .i64 (L : Int), .int .i64 20]).run Try.prog W = .ok (.int .i64 (M : Int)) W := by
    intro ts t W
    rw [run_min_int2, show (if (20 : Int) < (L : Int) then (20 : Int) else (L : Int)) = (M : Int) by rw [hM]; split <;> omega]
  have m1 : M ≤ L := by omega
  have m2 : M ≤ 20 := by omega
  rw [← hL] at hscap
  obtain ⟨c1, c2⟩ := hscap
  have hag := fun (W : World) (hb : Below w.heap.size w W) => agree_any l2 (by omega) SA sc W (by rw [hl2]; exact (hsp.deep hb).take M)
  have hrag := fun (W : World) (hb : Below w.heap.size w W) => ragree_any l2 (by omega) SA sc W (by rw [hl2]; exact (hsp.deep hb).take M)
  rw [← hlM] at hag hrag
  rw [← hL]
  obtain ⟨K, hK⟩ : ∃ K, K = crs.length := ⟨_, rfl⟩
  obtain ⟨F, hF⟩ : ∃ F, F = min K 13 := ⟨_, rfl⟩
  rw [← hK] at hcap ⊢
  have hfew := fun W => few_any dr CA K cc F hF hcap.1 hcap.2 W
  have hfr : F = (crs.take F).length := by rw [List.length_take]; omega
  have hF13 : F ≤ 13 := by omega
  have hcf := fun (W : World) (hb : Below w.heap.size w W) => (hc.deep hb).take F
  have s1 := fun W => spread_any drift local' W
  have s2 := fun W => rspread_any drift local' W
  generalize spreadS drift local' = ss at *
  have p1 := fun W => pick_any local' 5000 b2.1 b2.2 (by omega) (by omega) W
  have p2 := fun W => pick_any t 5000 b3.1 b3.2 (by omega) (by omega) W
  generalize pk local' 5000 = ql at *
  generalize pk t 5000 = qt at *
  have ns := fun (a b c d : Int) (W : World) => ne_spell a b c d W
  have HM := Lib.hid hm; have HAG := Lib.hid hag; have HRAG := Lib.hid hrag; have HFEW := Lib.hid hfew; have HFR := Lib.hid hfr; have HCF := Lib.hid hcf; have S1 := Lib.hid s1; have S2 := Lib.hid s2; have P1 := Lib.hid p1; have P2 := Lib.hid p2; have HS := Lib.hid hsane
  clear hm hag hrag hfew hfr hcf s1 s2 p1 p2 hsane hR hT hD hL hM hl2 hlM hK hF hcap hrr hrn hlr hln hc hr hl hsp b0 b1 b2 b3
  go_enter Try.func3, Try.ntmps3
  go_upto_region 11 with (first
    | (go_at_call 10; (refine (HS.out _).mono ?_); rintro e w1 ⟨rfl, hb1⟩; have C1 := Lib.hid (show Row w1 w.heap.size 24 #[.int .i64 dr, .slice CA K cc] from Row.below (Row.made w _ _) hb1 (by simp)); have B1 := Lib.hid (below_step (below_alloc w _) hb1); clear hb1)
    | (go_at_call 11; (with_reducible refine (S1.out _).mono ?_); rintro e wx ⟨rfl, hwx⟩; have hwx := hwx.symm; subst hwx)
    | (go_at_call 12; (with_reducible refine (S2.out _).mono ?_); rintro e wx ⟨rfl, hwx⟩; have hwx := hwx.symm; subst hwx)
    | (go_at_call 13; (refine (HAG.out _ B1.out).mono ?_); rintro e w2 ⟨⟨sf, st, sk, rfl, hA⟩, hb2⟩; dsimp only [agrV]; have HA := Lib.hid hA; have C2 := Lib.hid (Row.below C1.out hb2 C1.out.inside); have B2 := Lib.hid (below_step B1.out hb2); clear hA hb2; have C3 := Lib.hid (C2.out.later (.cells #[.int .i64 sf, .int .i64 st] 32)); have B3 := Lib.hid (keep_alloc B2.out (.cells #[.int .i64 sf, .int .i64 st] 32)); have r3 : Row (w2.alloc (.cells #[.int .i64 sf, .int .i64 st] 32)) w2.heap.size 32 #[.int .i64 sf, .int .i64 st] := Row.made _ _ _; have R3 := Lib.hid r3; clear r3)
    | (go_at_call 14; (refine (HRAG.out _ B3.out).mono ?_); rintro e w4 ⟨⟨sf', st', sk', rfl, hA'⟩, hb4⟩; obtain ⟨rfl, rfl, rfl⟩ := HA.out.one hA'; dsimp only [agrV]; have C4 := Lib.hid (Row.later (Row.below C3.out hb4 C3.out.inside) (.cells #[.int .i64 sf, .int .i64 st] 32)); have B4 := Lib.hid (keep_alloc (below_step B3.out hb4) (.cells #[.int .i64 sf, .int .i64 st] 32)); have r4 : Row (w4.alloc (.cells #[.int .i64 sf, .int .i64 st] 32)) w2.heap.size 32 #[.int .i64 sf, .int .i64 st] := (Row.below R3.out hb4 R3.out.inside).later _; have r5 : Row (w4.alloc (.cells #[.int .i64 sf, .int .i64 st] 32)) w4.heap.size 32 #[.int .i64 sf, .int .i64 st] := Row.made _ _ _; obtain ⟨j0, j1, _, _⟩ := r4.two; obtain ⟨j2, j3, _, _⟩ := r5.two; obtain ⟨j4, j5, _, _⟩ := C4.out.two; clear hA' hb4 r4 r5)
    | (go_at_call 15; (refine (HFEW.out _).mono ?_); rintro e w6 ⟨rfl, hb6⟩; have B6 := Lib.hid (below_step B4.out hb6); clear hb6)
    | (go_at_call 16; (refine (HM.out _ B6.out).mono ?_); rintro e w7 ⟨A1, cap1, N1, rs1, rfl, hN1, hN12, hok, hrd, hb7⟩; have B7 := Lib.hid (below_step B6.out hb7); have RD := Lib.hid hrd; have HN1 := Lib.hid hN1; clear hb7 hrd hok hN1))
  obtain ⟨W8, hW8⟩ : ∃ W8, W8 = w7.alloc (.cells #[.int .i64 dr, .slice CA F cc, .int .i64 D, .slice A1 N1 cap1] 24) := ⟨_, rfl⟩
  rw [← hW8]
  have T8 := Lib.hid (show Two W8 w7.heap.size dr CA F cc (crs.take F) D A1 N1 cap1 rs1 by
    rw [hW8]; exact ⟨Row.made _ _ _, HCF.out _ (keep_alloc B7.out _), RD.out.deep (below_alloc w7 _), HFR.out, HN1.out⟩)
  have B8 := Lib.hid (show Below w.heap.size w W8 by rw [hW8]; exact keep_alloc B7.out _)
  have hF2 : F ≤ 9223372036854775807 := by omega
  have hN2 : N1 ≤ 9223372036854775807 := by omega
  clear hW8 j0 j1 j2 j3 j4 j5 HM HAG HRAG HFEW HFR HCF S1 S2 HS HA C1 B1 C2 B2 C3 B3 R3 C4 B4 B6 B7 RD HN1 eM ns
  go_wp2_with fail
  go_loopg [27, 28, 29, 30, 31, 32, 33, 34, 35, 36, 37, 38, 39, 40, 41, 42, 43] 2 (fun kx s27 s28 s29 s30 s31 s32 s33 s34 s35 s36 s37 s38 s39 s40 s41 s42 s43 wr => ∃ (i : Nat), s27 = .int .i64 (i : Int) ∧ i + kx = 2 ∧ Two wr w7.heap.size dr CA F cc (crs.take F) D A1 N1 cap1 rs1 ∧ Below w.heap.size w wr)
  case atStart => exact ⟨0, rfl, rfl, T8.out, B8.out⟩
  case round =>
    clear T8 B8
    obtain ⟨i, rfl, hi, hT, hB⟩ := hrel
    by_cases hlt : i < 2
    · obtain ⟨d, A, N, c, rs, e0, e1, hrs, hN, hN3⟩ := hT.pick hlt hF2 hN2
      have hck : Ck (wr.alloc (.cells #[.int .i64 d, .slice A N c] 24)) wr.heap.size d A N c rs := Ck.box hrs hN _ rfl
      obtain ⟨P, PW, PS, PD, PC, PO⟩ : ∃ P : World → Prop, Hid (P (wr.alloc (.cells #[.int .i64 d, .slice A N c] 24))) ∧ Hid (∀ W W', P W → Below W.heap.size W W' → P W') ∧ Hid (∀ W, P W → P W.drew) ∧ Hid (∀ W, P W → Ck W wr.heap.size d A N c rs) ∧ Hid (∀ W, P W → Two W w7.heap.size dr CA F cc (crs.take F) D A1 N1 cap1 rs1 ∧ Below w.heap.size w W) :=
        ⟨fun W => Two W w7.heap.size dr CA F cc (crs.take F) D A1 N1 cap1 rs1 ∧ Ck W wr.heap.size d A N c rs ∧ Below w.heap.size w W,
          Lib.hid ⟨hT.step (below_alloc wr _), hck, keep_alloc hB _⟩, Lib.hid (fun W W' h b => ⟨h.1.step b, h.2.1.step b, below_step h.2.2 b⟩),
          Lib.hid (fun W h => ⟨h.1.step (Below.refl _ _).drew, h.2.1.step (Below.refl _ _).drew, h.2.2.drew⟩), Lib.hid (fun W h => h.2.1), Lib.hid (fun W h => ⟨h.1, h.2.2⟩)⟩
      obtain ⟨bv, hbv⟩ : ∃ b, validB d rs = b := ⟨_, rfl⟩
      have HV := Lib.hid hbv
      obtain ⟨gc, hgc⟩ : ∃ gc, gc = wr.heap.size := ⟨_, rfl⟩
      have ks : ∀ W, P W → Hid (P W) ∧ W.cell? ⟨gc, 0, none⟩ = some (.int .i64 d) ∧ W.cell? ⟨gc, 1, none⟩ = some (.slice A N c) := fun W h => by
        obtain ⟨k0, k1, _, _⟩ := (PC.out W h).eqs
        rw [hgc]; exact ⟨Lib.hid h, k0, k1⟩
      have gg : ∀ W, (Hid (P W) ∧ W.cell? ⟨gc, 0, none⟩ = some (.int .i64 d) ∧ W.cell? ⟨gc, 1, none⟩ = some (.slice A N c)) → P W := fun W h => h.1.out
      have KS := Lib.hid ks; have GG := Lib.hid gg
      clear hT hB hrs hN hck hbv ks gg
      go_upto_region 15 with fail
      obtain ⟨W1, hW1⟩ : ∃ W1, W1 = wr.alloc (.cells #[.int .i64 d, .slice A N c] 24) := ⟨_, rfl⟩
      rw [← hW1] at PW ⊢
      rw [← hgc] at PC ⊢
      obtain ⟨_, k0, k1⟩ := KS.out _ PW.out
      clear hW1 e0 e1 hgc
      go_cut [115] (fun s115 W => s115 = .bool false ∧ P W)
      case first => as_aux_lemma =>
        cases bv
        all_goals (
          go_region_held3 (fun W => Hid (P W) ∧ W.cell? ⟨gc, 0, none⟩ = some (.int .i64 d) ∧ W.cell? ⟨gc, 1, none⟩ = some (.slice A N c))
            (first | assumption | exact KS.out _ PW.out | exact KS.out _ (PD.out _ PW.out) | exact KS.out _ (PS.out _ _ (GG.out _ (by assumption)) (by assumption)) | exact KS.out _ (PD.out _ (GG.out _ (by assumption))))
            (first
              | (go_at_call 17; ((with_reducible refine (k_valid hN3 HV.out (PC.out _ (GG.out _ (by assumption)))).mono ?_); rintro e v1 ⟨rfl, bb⟩))
              | (go_at_call 18; ((with_reducible refine (kr_valid hN3 HV.out (PC.out _ (GG.out _ (by assumption)))).mono ?_); rintro e v1 ⟨rfl, bb⟩))))
        all_goals go_wp2_with fail
        all_goals go_meet
        all_goals (case rel => exact ⟨rfl, GG.out _ (by assumption)⟩)
      case rest =>
        clear PW k0 k1
        obtain ⟨rfl, hP⟩ := hcut
        obtain ⟨W2, hW2, hP⟩ := (⟨_, rfl, hP⟩ : ∃ W2, W2 = _ ∧ P W2)
        subst hW2
        have P2W := Lib.hid hP
        clear hP
        go_wp2_with (go_at_call 19; (first | (with_reducible refine (P1.out _).mono ?_) | (with_reducible refine (P2.out _).mono ?_)); rintro e wx ⟨rfl, hwx⟩; have hwx := hwx.symm; subst hwx)
        obtain ⟨W3, hW3⟩ : ∃ W3, W3 = (W2.alloc (Obj.cells #[Value.int IntKind.i64 local', Value.int IntKind.i64 ql] 3)).alloc (Obj.cells #[Value.int IntKind.i64 t, Value.int IntKind.i64 qt] 3) := ⟨_, rfl⟩
        rw [← hW3]
        obtain ⟨gl, hgl⟩ : ∃ gl, gl = W2.heap.size := ⟨_, rfl⟩
        obtain ⟨gt, hgt⟩ : ∃ gt, gt = W2.heap.size + 1 := ⟨_, rfl⟩
        rw [← hgt, ← hgl]
        have hl3 : Row W3 gl 3 #[.int .i64 local', .int .i64 ql] := by rw [hW3, hgl]; exact (Row.made _ _ _).later _
        have ht3 : Row W3 gt 3 #[.int .i64 t, .int .i64 qt] := by rw [hW3, hgt]; exact Row.made_at _ _ _ (by simp)
        have hp3 : P W3 := by rw [hW3]; exact PS.out _ _ (PS.out _ _ P2W.out (below_alloc W2 _)) (below_alloc _ _)
        obtain ⟨Q, QW, QS, QD, QC, QO, QR⟩ : ∃ Q : World → Prop, Hid (Q W3) ∧ Hid (∀ W W', Q W → Below W.heap.size W W' → Q W') ∧ Hid (∀ W, Q W → Q W.drew) ∧ Hid (∀ W, Q W → Ck W gc d A N c rs) ∧ Hid (∀ W, Q W → P W) ∧ Hid (∀ W k, Q W → k < 2 → W.cell? ⟨gl, k, none⟩ = some (.int .i64 (if k = 0 then local' else ql)) ∧ W.cell? ⟨gt, k, none⟩ = some (.int .i64 (if k = 0 then t else qt))) :=
          ⟨fun W => P W ∧ Row W gl 3 #[.int .i64 local', .int .i64 ql] ∧ Row W gt 3 #[.int .i64 t, .int .i64 qt],
            Lib.hid ⟨hp3, hl3, ht3⟩, Lib.hid (fun W W' h b => ⟨PS.out _ _ h.1 b, Row.below h.2.1 b h.2.1.inside, Row.below h.2.2 b h.2.2.inside⟩),
            Lib.hid (fun W h => ⟨PD.out _ h.1, h.2.1.drawn, h.2.2.drawn⟩), Lib.hid (fun W h => PC.out _ h.1), Lib.hid (fun W h => h.1), Lib.hid (fun W k h hk => ⟨h.2.1.pick2 hk, h.2.2.pick2 hk⟩)⟩
        clear hW3 hgl hgt hl3 ht3 hp3 P2W
        go_loopg [31, 32, 33, 34, 35, 36, 37, 38, 39, 40, 41, 42, 43] 2 (fun kx s31 s32 s33 s34 s35 s36 s37 s38 s39 s40 s41 s42 s43 wi => ∃ (k : Nat), s31 = .int .i64 (k : Int) ∧ k + kx = 2 ∧ Q wi)
        case atStart => exact ⟨0, rfl, rfl, QW.out⟩
        case round =>
          clear QW
          obtain ⟨k, rfl, hk, hQ⟩ := hrel
          by_cases hk2 : k < 2
          · obtain ⟨x, hx⟩ : ∃ x : Int, x = if k = 0 then local' else ql := ⟨_, rfl⟩
            obtain ⟨y, hy⟩ : ∃ y : Int, y = if k = 0 then t else qt := ⟨_, rfl⟩
            have ks : ∀ W, Q W → Hid (Q W) ∧ W.cell? ⟨gc, 0, none⟩ = some (.int .i64 d) ∧ W.cell? ⟨gc, 1, none⟩ = some (.slice A N c) ∧ W.cell? ⟨gl, k, none⟩ = some (.int .i64 x) ∧ W.cell? ⟨gt, k, none⟩ = some (.int .i64 y) := fun W h => by
              obtain ⟨k0, k1, _, _⟩ := (QC.out W h).eqs
              obtain ⟨k2, k3⟩ := QR.out W k h hk2
              rw [← hx] at k2; rw [← hy] at k3
              exact ⟨Lib.hid h, k0, k1, k2, k3⟩
            have gg : ∀ W, (Hid (Q W) ∧ W.cell? ⟨gc, 0, none⟩ = some (.int .i64 d) ∧ W.cell? ⟨gc, 1, none⟩ = some (.slice A N c) ∧ W.cell? ⟨gl, k, none⟩ = some (.int .i64 x) ∧ W.cell? ⟨gt, k, none⟩ = some (.int .i64 y)) → Q W := fun W h => h.1.out
            have QK := Lib.hid ks; have QG := Lib.hid gg
            obtain ⟨a1, a2, a3, ha⟩ : ∃ a b z, atS d rs x = (a, b, z) := ⟨_, _, _, rfl⟩
            obtain ⟨r1, r2, r3, hr⟩ : ∃ a b z, readsS d rs y = (a, b, z) := ⟨_, _, _, rfl⟩
            obtain ⟨vb, hvb⟩ : ∃ b, beforeS d rs x y = b := ⟨_, rfl⟩
            obtain ⟨va, hva⟩ : ∃ b, afterS d rs x y = b := ⟨_, rfl⟩
            have HAt := Lib.hid ha; have HRe := Lib.hid hr; have HBe := Lib.hid hvb; have HAf := Lib.hid hva
            obtain ⟨QQ, c0, c1, c2, c3⟩ := ks _ hQ
            clear hQ hx hy ks gg ha hr hvb hva
            go_upto_region 22 with fail
            go_cut [32, 33, 34] (fun s32 s33 s34 W => s32 = .int .i64 a1 ∧ s33 = .int .i64 a2 ∧ s34 = .int .i64 a3 ∧ Q W)
            case first => as_aux_lemma =>
              go_region_held3 (fun W => Hid (Q W) ∧ W.cell? ⟨gc, 0, none⟩ = some (.int .i64 d) ∧ W.cell? ⟨gc, 1, none⟩ = some (.slice A N c) ∧ W.cell? ⟨gl, k, none⟩ = some (.int .i64 x) ∧ W.cell? ⟨gt, k, none⟩ = some (.int .i64 y))
                (first | assumption | exact QK.out _ QQ.out | exact QK.out _ (QD.out _ QQ.out) | exact QK.out _ (QS.out _ _ (QG.out _ (by assumption)) (by assumption)) | exact QK.out _ (QD.out _ (QG.out _ (by assumption))))
                (first | (go_at_call 20; ((with_reducible refine (k_at hN3 HAt.out (QC.out _ (QG.out _ (by assumption)))).mono ?_); rintro e v1 ⟨rfl, bb⟩)))
              all_goals go_wp2_with fail
              all_goals go_meet
              all_goals (case rel => exact ⟨rfl, rfl, rfl, QG.out _ (by assumption)⟩)
            case rest =>
              clear QQ c0 c1 c2 c3
              obtain ⟨rfl, rfl, rfl, hQ⟩ := hcut
              obtain ⟨QQ, c0, c1, c2, c3⟩ := QK.out _ hQ
              clear hQ
              go_upto_region 23 with fail
              go_cut [35, 36, 37] (fun s35 s36 s37 W => s35 = .int .i64 a1 ∧ s36 = .int .i64 a2 ∧ s37 = .int .i64 a3 ∧ Q W)
              case first => as_aux_lemma =>
                go_region_held3 (fun W => Hid (Q W) ∧ W.cell? ⟨gc, 0, none⟩ = some (.int .i64 d) ∧ W.cell? ⟨gc, 1, none⟩ = some (.slice A N c) ∧ W.cell? ⟨gl, k, none⟩ = some (.int .i64 x) ∧ W.cell? ⟨gt, k, none⟩ = some (.int .i64 y))
                  (first | assumption | exact QK.out _ QQ.out | exact QK.out _ (QD.out _ QQ.out) | exact QK.out _ (QS.out _ _ (QG.out _ (by assumption)) (by assumption)) | exact QK.out _ (QD.out _ (QG.out _ (by assumption))))
                  (first | (go_at_call 21; ((with_reducible refine (kr_at hN3 HAt.out (QC.out _ (QG.out _ (by assumption)))).mono ?_); rintro e v1 ⟨rfl, bb⟩)))
                all_goals go_wp2_with fail
                all_goals go_meet
                all_goals (case rel => exact ⟨rfl, rfl, rfl, QG.out _ (by assumption)⟩)
              case rest =>
                clear QQ c0 c1 c2 c3
                obtain ⟨rfl, rfl, rfl, hQ⟩ := hcut
                obtain ⟨QQ, c0, c1, c2, c3⟩ := QK.out _ hQ
                clear hQ
                go_upto_region 24 with fail
                go_cut [38, 39, 40] (fun s38 s39 s40 W => s38 = .int .i64 r1 ∧ s39 = .int .i64 r2 ∧ s40 = .int .i64 r3 ∧ Q W)
                case first => as_aux_lemma =>
                  go_region_held3 (fun W => Hid (Q W) ∧ W.cell? ⟨gc, 0, none⟩ = some (.int .i64 d) ∧ W.cell? ⟨gc, 1, none⟩ = some (.slice A N c) ∧ W.cell? ⟨gl, k, none⟩ = some (.int .i64 x) ∧ W.cell? ⟨gt, k, none⟩ = some (.int .i64 y))
                    (first | assumption | exact QK.out _ QQ.out | exact QK.out _ (QD.out _ QQ.out) | exact QK.out _ (QS.out _ _ (QG.out _ (by assumption)) (by assumption)) | exact QK.out _ (QD.out _ (QG.out _ (by assumption))))
                    (first | (go_at_call 22; ((with_reducible refine (k_reads hN3 HRe.out (QC.out _ (QG.out _ (by assumption)))).mono ?_); rintro e v1 ⟨rfl, bb⟩)))
                  all_goals go_wp2_with fail
                  all_goals go_meet
                  all_goals (case rel => exact ⟨rfl, rfl, rfl, QG.out _ (by assumption)⟩)
                case rest =>
                  clear QQ c0 c1 c2 c3
                  obtain ⟨rfl, rfl, rfl, hQ⟩ := hcut
                  obtain ⟨QQ, c0, c1, c2, c3⟩ := QK.out _ hQ
                  clear hQ
                  go_upto_region 25 with fail
                  go_cut [41, 42, 43] (fun s41 s42 s43 W => s41 = .int .i64 r1 ∧ s42 = .int .i64 r2 ∧ s43 = .int .i64 r3 ∧ Q W)
                  case first => as_aux_lemma =>
                    go_region_held3 (fun W => Hid (Q W) ∧ W.cell? ⟨gc, 0, none⟩ = some (.int .i64 d) ∧ W.cell? ⟨gc, 1, none⟩ = some (.slice A N c) ∧ W.cell? ⟨gl, k, none⟩ = some (.int .i64 x) ∧ W.cell? ⟨gt, k, none⟩ = some (.int .i64 y))
                      (first | assumption | exact QK.out _ QQ.out | exact QK.out _ (QD.out _ QQ.out) | exact QK.out _ (QS.out _ _ (QG.out _ (by assumption)) (by assumption)) | exact QK.out _ (QD.out _ (QG.out _ (by assumption))))
                      (first | (go_at_call 23; ((with_reducible refine (kr_reads hN3 HRe.out (QC.out _ (QG.out _ (by assumption)))).mono ?_); rintro e v1 ⟨rfl, bb⟩)))
                    all_goals go_wp2_with fail
                    all_goals go_meet
                    all_goals (case rel => exact ⟨rfl, rfl, rfl, QG.out _ (by assumption)⟩)
                  case rest =>
                    clear QQ c0 c1 c2 c3
                    obtain ⟨rfl, rfl, rfl, hQ⟩ := hcut
                    obtain ⟨QQ, c0, c1, c2, c3⟩ := QK.out _ hQ
                    clear hQ
                    go_upto_region 28 with fail
                    go_cut [239] (fun s239 W => s239 = .bool false ∧ Q W)
                    case first => as_aux_lemma =>
                      have nb1 : (vb != vb) = false := by cases vb <;> rfl
                      have nb2 : (va != va) = false := by cases va <;> rfl
                      have nb3 : (vb == vb) = true := by cases vb <;> rfl
                      have nb4 : (va == va) = true := by cases va <;> rfl
                      all_goals (
                        go_region_held3 (fun W => Hid (Q W) ∧ W.cell? ⟨gc, 0, none⟩ = some (.int .i64 d) ∧ W.cell? ⟨gc, 1, none⟩ = some (.slice A N c) ∧ W.cell? ⟨gl, k, none⟩ = some (.int .i64 x) ∧ W.cell? ⟨gt, k, none⟩ = some (.int .i64 y))
                          (first | assumption | exact QK.out _ QQ.out | exact QK.out _ (QD.out _ QQ.out) | exact QK.out _ (QS.out _ _ (QG.out _ (by assumption)) (by assumption)) | exact QK.out _ (QD.out _ (QG.out _ (by assumption))))
                          (first
                            | (go_at_call 24; ((with_reducible refine (k_before hN3 HBe.out (QC.out _ (QG.out _ (by assumption)))).mono ?_); rintro e v1 ⟨rfl, bb⟩))
                            | (go_at_call 25; ((with_reducible refine (kr_before hN3 HBe.out (QC.out _ (QG.out _ (by assumption)))).mono ?_); rintro e v1 ⟨rfl, bb⟩))
                            | (go_at_call 26; ((with_reducible refine (k_after hN3 HAf.out (QC.out _ (QG.out _ (by assumption)))).mono ?_); rintro e v1 ⟨rfl, bb⟩))
                            | (go_at_call 27; ((with_reducible refine (kr_after hN3 HAf.out (QC.out _ (QG.out _ (by assumption)))).mono ?_); rintro e v1 ⟨rfl, bb⟩))))
                      all_goals go_wp2_with fail
                      all_goals go_meet
                      all_goals (case rel => exact ⟨rfl, QG.out _ (by assumption)⟩)
                    case rest =>
                      clear QQ c0 c1 c2 c3
                      obtain ⟨rfl, hQ⟩ := hcut
                      have QQ := Lib.hid hQ
                      clear hQ
                      go_wp2_with fail
                      go_roundg (2 - (k + 1))
                      case measure => omega
                      case rel => exact ⟨k + 1, by go_num, by omega, QQ.out⟩
          · obtain rfl : k = 2 := by omega
            have QQ := Lib.hid hQ
            clear hQ
            go_wp2_with fail
            go_roundg (2 - (i + 1))
            case measure => omega
            case rel => exact ⟨i + 1, by go_num, by omega, (PO.out _ (QO.out _ QQ.out)).1, (PO.out _ (QO.out _ QQ.out)).2⟩
    · obtain rfl : i = 2 := by omega
      have BB := Lib.hid hB
      clear hT hB
      go_wp2
      go_ret
      exact ⟨rfl, BB.out⟩
end Go.Proofs.Ytjhcdkllneeijaa
