/- StatuteExceptions: its walk. -/
import Derived.Test.YtddeegfdbnmemaaOx
import Derived.Test.YtddeegfdbnmemaaQh
import Derived.RangeFuncBox
import Derived.Test.YtddeegfdbnmemaaVm
namespace Go.Proofs.Ytddeegfdbnmemaa
open Go.RowKit Go.Sort Go.Lib

set_option maxRecDepth 100000 in
set_option maxHeartbeats 16000000 in
theorem exc_walk (hsane : ∀ W : World, Calls Try.prog 9 #[] W fun e w' => e = .returned (.bool true) ∧ Below W.heap.size W w') (C : List Six) (CA : Option Addr) (Cc : Nat) (R : List Tri) (RA : Option Addr) (Rc : Nat) (F : List Six) (FA : Option Addr) (Fc : Nat) (a0 a1 a2 a3 : Int) (wh nu p0 p1 : Int) (hC : ∀ y ∈ C, In6 y) (hR : ∀ y ∈ R, In3 y) (hF : ∀ y ∈ F, In6 y) (lC : C.length ≤ 9223372036854775807) (lR : R.length ≤ 9223372036854775807) (lF : F.length ≤ 9223372036854775807) (i0 : In64 a0) (i1 : In64 a1) (i2 : In64 a2) (i3 : In64 a3) (iw : In64 wh) (inu : In64 nu) (ip0 : In64 p0) (ip1 : In64 p1) (w : World) (wC : Cells w w.heap.size CA 6 (C.map fun y => (sixL y).toArray)) (wR : Cells w w.heap.size RA 3 (R.map fun y => (triL y).toArray)) (wF : Cells w w.heap.size FA 6 (F.map fun y => (sixL y).toArray)) :
    Calls Try.prog 7 #[.agg #[.slice CA C.length Cc, .slice RA R.length Rc, .slice FA F.length Fc], .agg #[.int .i64 a0, .int .i64 a1, .int .i64 a2, .int .i64 a3], .int .i64 wh, .int .i64 nu, .agg #[.int .i64 p0, .int .i64 p1]] w fun e w' => e = .returned (.bool true) ∧ Below w.heap.size w w' := by
  have hp0 := fun W => pick_any p0 100 ip0.1 ip0.2 (by omega) (by omega) W
  have hp1 := fun W => pick_any p1 50 ip1.1 ip1.2 (by omega) (by omega) W
  have rp0 := pk_range (c := p0) (n := 100) (by omega)
  have rp1 := pk_range (c := p1) (n := 50) (by omega)
  generalize hz0 : pk p0 100 = z0 at *
  generalize hz1 : pk p1 50 = z1 at *
  have htm := pk_range (c := a2) (n := 100) (by omega)
  have htm2 : (askI a0 a1 a2 a3).time = pk a2 100 := rfl
  have HP0 := Lib.hid hp0; have HP1 := Lib.hid hp1; have IW := Lib.hid iw; have INU := Lib.hid inu
  rw [← htm2] at htm
  clear hp0 hp1 iw inu ip0 ip1 hz0 hz1 htm2
  have XT := Lib.hid (made_terms C R F)
  have hmad := made_bk C CA Cc R RA Rc F FA Fc hC hR hF lC lR lF w wC wR wF
  have hask := fun W => ask_ref a0 a1 a2 a3 i0 i1 i2 i3 W
  have hvb := made_valid C R F
  have hln := made_len C R F
  have haq := ask_asks a0 a1 a2 a3
  generalize hbb : madeB C R F = b at *
  generalize hqq : askI a0 a1 a2 a3 = q at *
  generalize hNC : b.cls.length = NC at *
  generalize hNR : b.rpl.length = NR at *
  generalize hNF : b.fct.length = NF at *
  generalize C.length = LC at *
  generalize R.length = LR at *
  generalize F.length = LF at *
  have SAN := Lib.hid hsane; have HMAD := Lib.hid hmad; have HASK := Lib.hid hask; have VB := Lib.hid hvb; have AQ := Lib.hid haq; have ENC := Lib.hid hNC; have ENR := Lib.hid hNR; have ENF := Lib.hid hNF; have EB := Lib.hid hbb; have EQ := Lib.hid hqq; have HLN := Lib.hid hln
  clear hsane hmad hask hvb haq hC hR hF lC lR lF wC wR wF i0 i1 i2 i3 hNC hNR hNF hbb hqq hln
  obtain ⟨W0, hW0⟩ : ∃ W0, W0 = (((w.alloc (.cells #[.slice CA LC Cc, .slice RA LR Rc, .slice FA LF Fc] 25)).alloc (.cells #[.int .i64 a0, .int .i64 a1, .int .i64 a2, .int .i64 a3] 26)).alloc (.cells #[.int .i64 p0, .int .i64 p1] 27)) := ⟨_, rfl⟩
  have BW : Hid (Below w.heap.size w W0) := Lib.hid (by rw [hW0]; exact keep_alloc (keep_alloc (keep_alloc (Below.refl _ _) _) _) _)
  have X : Hid (Row W0 (w.heap.size) 25 #[.slice CA LC Cc, .slice RA LR Rc, .slice FA LF Fc]) := Lib.hid (by rw [hW0]; exact ((Row.made _ _ _).later _).later _)
  have Y : Hid (Row W0 (w.heap.size + 1) 26 #[.int .i64 a0, .int .i64 a1, .int .i64 a2, .int .i64 a3]) := Lib.hid (by rw [hW0]; exact (Row.made_at _ _ _ (by simp)).later _)
  have H : Hid (Row W0 (w.heap.size + 1 + 1) 27 #[.int .i64 p0, .int .i64 p1]) := Lib.hid (by rw [hW0]; exact Row.made_at _ _ _ (by simp))
  go_enter Try.func7, Try.ntmps7
  go_upto_region 1 with (fail)
  rw [← hW0]
  clear hW0
  go_upto_region 3 with (go_at_call 9; (with_reducible refine (SAN.out _).mono ?_); rintro e w1 ⟨rfl, b⟩; replace X := Lib.hid (X.out.step b); replace Y := Lib.hid (Y.out.step b); replace H := Lib.hid (H.out.step b); replace BW := Lib.hid (below_step BW.out b); clear b)
  obtain ⟨x0, x1, x2, _, _, _⟩ := X.out.three
  go_upto_region 4 with (go_at_call 10; (with_reducible refine (HMAD.out _ BW.out).mono ?_); rintro e w2 ⟨A1, c1, A2, c2, A3, c3, rfl, bk, b⟩; replace X := Lib.hid (X.out.step b); replace Y := Lib.hid (Y.out.step b); replace H := Lib.hid (H.out.step b); replace BW := Lib.hid (below_step BW.out b); have BK := Lib.hid bk; clear b bk)
  obtain ⟨W2, hW2⟩ : ∃ W, W = w2.alloc (.cells #[.slice A1 NC c1, .slice A2 NR c2, .slice A3 NF c3] 34) := ⟨_, rfl⟩
  rw [← hW2]
  have b : Below w2.heap.size w2 W2 := by rw [hW2]; exact below_alloc _ _
  have CR : Hid (Row W2 w2.heap.size 34 #[.slice A1 NC c1, .slice A2 NR c2, .slice A3 NF c3]) := Lib.hid (by rw [hW2]; exact Row.made _ _ _)
  replace X := Lib.hid (X.out.step b); replace Y := Lib.hid (Y.out.step b); replace H := Lib.hid (H.out.step b); replace BK := Lib.hid (BK.out.deep b); replace BW := Lib.hid (below_step BW.out b)
  obtain ⟨gc, hgc⟩ : ∃ g, g = w2.heap.size := ⟨_, rfl⟩
  rw [← hgc] at CR ⊢
  clear hW2 b x0 x1 x2 hgc
  obtain ⟨y0, y1, y2, y3⟩ := box4 Y.out
  obtain ⟨th, sy, tm, kn⟩ := q
  dsimp only at htm
  go_upto_region 5 with (go_at_call 11; (with_reducible refine (HASK.out _).mono ?_); rintro e w3 ⟨rfl, b⟩; replace X := Lib.hid (X.out.step b); replace Y := Lib.hid (Y.out.step b); replace H := Lib.hid (H.out.step b); replace BK := Lib.hid (BK.out.deep b); replace CR := Lib.hid (CR.out.step b); replace BW := Lib.hid (below_step BW.out b); clear b)
  obtain ⟨W3, hW3⟩ : ∃ W, W = w3.alloc (.cells #[.int .i64 th, .int .i64 sy, .int .i64 tm, .int .i64 kn] 37) := ⟨_, rfl⟩
  unfold qnC
  dsimp only
  rw [← hW3]
  have b : Below w3.heap.size w3 W3 := by rw [hW3]; exact below_alloc _ _
  have QR : Hid (Row W3 w3.heap.size 37 #[.int .i64 th, .int .i64 sy, .int .i64 tm, .int .i64 kn]) := Lib.hid (by rw [hW3]; exact Row.made _ _ _)
  replace X := Lib.hid (X.out.step b); replace Y := Lib.hid (Y.out.step b); replace H := Lib.hid (H.out.step b); replace BK := Lib.hid (BK.out.deep b); replace CR := Lib.hid (CR.out.step b); replace BW := Lib.hid (below_step BW.out b)
  obtain ⟨gq, hgq⟩ : ∃ g, g = w3.heap.size := ⟨_, rfl⟩
  rw [← hgq] at QR ⊢
  clear hW3 b y0 y1 y2 y3 hgq
  obtain ⟨k0, k1, k2, _, _, _⟩ := CR.out.three
  obtain ⟨q0, q1, q2, q3⟩ := box4 QR.out
  have hdec := fun (W : World) (h : BkV W W.heap.size (.slice A1 NC c1) (.slice A2 NR c2) (.slice A3 NF c3) b) => decide_prf b ⟨th, sy, tm, kn⟩ VB.out AQ.out _ _ _ W h
  unfold qnC at hdec
  dsimp only at hdec
  generalize hso : soB b ⟨th, sy, tm, kn⟩ sy = so at hdec
  have HDEC := Lib.hid hdec; have HSO := Lib.hid hso
  clear hdec hso
  go_upto_region 6 with (go_at_call 12; (with_reducible refine (HDEC.out _ BK.out).mono ?_); rintro e w4 ⟨g, n, c, l, rfl, pf, ⟨n0, n20⟩, b⟩; replace X := Lib.hid (X.out.step b); replace Y := Lib.hid (Y.out.step b); replace H := Lib.hid (H.out.step b); replace BK := Lib.hid (BK.out.deep b); replace CR := Lib.hid (CR.out.step b); replace QR := Lib.hid (QR.out.step b); replace BW := Lib.hid (below_step BW.out b); have PF := Lib.hid pf; clear b pf)
  clear k0 k1 k2 q0 q1 q2 q3
  have hnc := PF.out.cap
  obtain ⟨k0, k1, k2, _, _, _⟩ := CR.out.three
  by_cases hN0 : NC = 0
  · subst hN0
    go_wp2
    go_ret
    exact ⟨rfl, BW.out⟩
  have hnc0 : ((NC : Int) == 0) = false := by simp; omega
  have hl8 := HLN.out.1
  have pw := fun W => pick_any wh NC IW.out.1 IW.out.2 (by omega) (by omega) W
  have rw_ := pk_range (c := wh) (n := (NC : Int)) (by omega)
  generalize pk wh NC = k at *
  obtain ⟨k, rfl⟩ := Int.eq_ofNat_of_zero_le rw_.1
  have hkN : k < NC := by omega
  obtain ⟨x, hx⟩ : ∃ x, b.cls[k]? = some x := at_lt (by rw [ENC.out]; exact hkN)
  have PW := Lib.hid pw; have HX := Lib.hid hx
  clear pw rw_ hx
  go_upto_region 9 with (first | (go_at_call 16; (with_reducible refine (PW.out _).mono ?_); rintro e wx ⟨rfl, hwx⟩; have hwx := hwx.symm; subst hwx) | fail)
  have hcp := copy_bx b VB.out A1 c1 A2 c2 A3 c3
  rw [ENC.out, ENR.out, ENF.out] at hcp
  have HCP := Lib.hid hcp
  clear hcp
  go_upto_region 10 with (go_at_call 15; (with_reducible refine (HCP.out _ BK.out).mono ?_); rintro e w9 ⟨B1, d1, B2, d2, B3, d3, cs, rfl, hcs, hbx⟩; have HCS := Lib.hid hcs; have HBX := Lib.hid hbx; clear hcs hbx)
  obtain ⟨W10, hW10⟩ : ∃ W, W = w9.alloc (.cells #[.slice B1 cs.length d1, .slice B2 NR d2, .slice B3 NF d3] 34) := ⟨_, rfl⟩
  rw [← hW10] at HBX ⊢
  obtain ⟨gl, hgl⟩ : ∃ g, g = w9.heap.size := ⟨_, rfl⟩
  rw [← hgl] at HBX ⊢
  clear hW10 hgl k0 k1 k2
  have hH := H.out.step HBX.out.b
  have hQ := QR.out.step HBX.out.b
  obtain ⟨P7, hP7⟩ : ∃ P : World → Prop, P = fun W => Bx w4 gl (.slice B1 cs.length d1) (.slice B2 NR d2) (.slice B3 NF d3) cs b.rpl b.fct W ∧ Row W (w.heap.size + 1 + 1) 27 #[.int .i64 p0, .int .i64 p1] ∧ Row W gq 37 #[.int .i64 th, .int .i64 sy, .int .i64 tm, .int .i64 kn] := ⟨_, rfl⟩
  have gg : P7 W10 := by rw [hP7]; exact ⟨HBX.out, hH, hQ⟩
  have kk : ∀ W, P7 W → (Hid (P7 W) ∧ W.cell? ⟨gl, 1, none⟩ = some (.slice B2 NR d2) ∧ W.cell? ⟨w.heap.size + 1 + 1, 0, none⟩ = some (.int .i64 p0) ∧ W.cell? ⟨w.heap.size + 1 + 1, 1, none⟩ = some (.int .i64 p1) ∧ W.cell? ⟨gq, 2, none⟩ = some (.int .i64 tm)) := fun W h => by
    have h' := h
    rw [hP7] at h'
    exact ⟨Lib.hid h, h'.1.r.at (i := 1) rfl, h'.2.1.at (i := 0) rfl, h'.2.1.at (i := 1) rfl, h'.2.2.at (i := 2) rfl⟩
  have sp : ∀ W X, P7 W → Below W.heap.size W X → P7 X := fun W X h hb => by
    rw [hP7] at h ⊢
    exact ⟨h.1.step hb, h.2.1.step hb, h.2.2.step hb⟩
  have GG := Lib.hid (sp _ _ gg ((Below.refl _ _).drew)); have KK := Lib.hid kk; have SP := Lib.hid sp; have HP7 := Lib.hid hP7
  clear hP7 gg kk sp hH hQ
  have w1_ : IntKind.i64.wrap (tm + 1) = tm + 1 := IntWalk.i64_in _ (by omega)
  have w2_ : IntKind.i64.wrap (tm + 1 + z1) = tm + 1 + z1 := IntWalk.i64_in _ (by omega)
  obtain ⟨ir, hr0, hrz, hrs, hrb⟩ := info_parts rpl_info
  have INF := Lib.hid (And.intro hr0 (And.intro hrz (And.intro hrs hrb)))
  have hnr : NR ≤ 3 := HLN.out.2.1
  have hrl : b.rpl.length = NR := ENR.out
  clear hr0 hrz hrs hrb
  refine wp_region_held_head (S := (fun W => (Hid (P7 W) ∧ W.cell? ⟨gl, 1, none⟩ = some (.slice B2 NR d2) ∧ W.cell? ⟨w.heap.size + 1 + 1, 0, none⟩ = some (.int .i64 p0) ∧ W.cell? ⟨w.heap.size + 1 + 1, 1, none⟩ = some (.int .i64 p1) ∧ W.cell? ⟨gq, 2, none⟩ = some (.int .i64 tm)))) 15 (by kernel_rfl) (by kernel_rfl) ?_ (fun hHeld => ?_)
  · exact KK.out _ GG.out
  simp only [List.take_succ_cons, List.take_zero, List.drop_succ_cons, List.drop_zero]
  refine wpAnyH_take (i := 0) (oi := ⟨_, _, _, _, _, _⟩) (v := ?_) rfl (by kernel_rfl) (by kernel_rfl) (by kernel_rfl) (fun _ _ _ h => h) (Or.inl ⟨by rfl, ?_⟩) (by assumption) ?_
  rotate_left 1
  focus (intro w hSw; (try dsimp only at hSw); go_simp; (try with_reducible rfl))
  (try simp only [Act.put, List.setIfInBounds_toArray, List.set_cons_zero, List.set_cons_succ])
  refine wpAnyH_take (i := 1) (oi := ⟨_, _, _, _, _, _⟩) (v := ?_) rfl (by kernel_rfl) (by kernel_rfl) (by kernel_rfl) (fun _ _ _ h => h) (Or.inl ⟨by rfl, ?_⟩) (by assumption) ?_
  rotate_left 1
  focus (intro w hSw; (try dsimp only at hSw); go_simp; (try with_reducible rfl))
  (try simp only [Act.put, List.setIfInBounds_toArray, List.set_cons_zero, List.set_cons_succ])
  refine wpAnyH_take (i := 2) (oi := ⟨_, _, _, _, _, _⟩) (v := ?_) rfl (by kernel_rfl) (by kernel_rfl) (by kernel_rfl) (fun _ _ _ h => h) (Or.inl ⟨by rfl, ?_⟩) (by assumption) ?_
  rotate_left 1
  focus (intro w hSw; (try dsimp only at hSw); go_simp; (try with_reducible rfl))
  (try simp only [Act.put, List.setIfInBounds_toArray, List.set_cons_zero, List.set_cons_succ])
  refine wpAnyH_take (i := 3) (oi := ⟨_, _, _, _, _, _⟩) (v := ?_) rfl (by kernel_rfl) (by kernel_rfl) (by kernel_rfl) (fun _ _ _ h => h) (Or.inl ⟨by rfl, ?_⟩) (by assumption) ?_
  rotate_left 1
  focus (intro w hSw; (try dsimp only at hSw); go_simp; (try with_reducible rfl))
  (try simp only [Act.put, List.setIfInBounds_toArray, List.set_cons_zero, List.set_cons_succ])
  refine wpAnyH_take (i := 4) (oi := ⟨_, _, _, _, _, _⟩) (v := ?_) rfl (by kernel_rfl) (by kernel_rfl) (by kernel_rfl) (fun _ _ _ h => h) (Or.inl ⟨by rfl, ?_⟩) (by assumption) ?_
  rotate_left 1
  focus (intro w hSw; (try dsimp only at hSw); go_simp; (try with_reducible rfl))
  (try simp only [Act.put, List.setIfInBounds_toArray, List.set_cons_zero, List.set_cons_succ])
  refine wpAnyH_take (i := 6) (oi := ⟨_, _, _, _, _, _⟩) (v := ?_) rfl (by kernel_rfl) (by kernel_rfl) (by kernel_rfl) (fun _ _ _ h => h) (Or.inl ⟨by rfl, ?_⟩) (by assumption) ?_
  rotate_left 1
  focus (intro w hSw; (try dsimp only at hSw); go_simp; (try with_reducible rfl))
  (try simp only [Act.put, List.setIfInBounds_toArray, List.set_cons_zero, List.set_cons_succ])
  refine wpAnyH_take (i := 7) (oi := ⟨_, _, _, _, _, _⟩) (v := ?_) rfl (by kernel_rfl) (by kernel_rfl) (by kernel_rfl) (fun _ _ _ h => h) (Or.inl ⟨by rfl, ?_⟩) (by assumption) ?_
  rotate_left 1
  focus (intro w hSw; (try dsimp only at hSw); go_simp; (try with_reducible rfl))
  (try simp only [Act.put, List.setIfInBounds_toArray, List.set_cons_zero, List.set_cons_succ])
  refine wpAnyH_take (i := 8) (oi := ⟨_, _, _, _, _, _⟩) (v := ?_) rfl (by kernel_rfl) (by kernel_rfl) (by kernel_rfl) (fun _ _ _ h => h) (Or.inl ⟨by rfl, ?_⟩) (by assumption) ?_
  rotate_left 1
  focus (intro w hSw; (try dsimp only at hSw); go_simp; (try with_reducible rfl))
  (try simp only [Act.put, List.setIfInBounds_toArray, List.set_cons_zero, List.set_cons_succ])
  refine wpAnyH_take (i := 9) (oi := ⟨_, _, _, _, _, _⟩) (v := ?_) rfl (by kernel_rfl) (by kernel_rfl) (by kernel_rfl) (fun _ _ _ h => h) (Or.inl ⟨by rfl, ?_⟩) (by assumption) ?_
  rotate_left 1
  focus (intro w hSw; (try dsimp only at hSw); go_simp; (try with_reducible rfl))
  (try simp only [Act.put, List.setIfInBounds_toArray, List.set_cons_zero, List.set_cons_succ])
  refine wpAnyH_take (i := 10) (oi := ⟨_, _, _, _, _, _⟩) (v := ?_) rfl (by kernel_rfl) (by kernel_rfl) (by kernel_rfl) (fun _ _ _ h => h) (Or.inl ⟨by rfl, ?_⟩) (by assumption) ?_
  rotate_left 1
  focus (intro w hSw; (try dsimp only at hSw); go_simp; (try with_reducible rfl))
  (try simp only [Act.put, List.setIfInBounds_toArray, List.set_cons_zero, List.set_cons_succ])
  refine wpAnyH_ready (rs := [5]) (by kernel_rfl) (by simp) ?_
  refine AllReadyH.cons (o := ⟨_, _, _, _, _, _⟩) rfl (fun K hK => ?_) ?_
  · go_simp
    go_at_call 16
    (with_reducible refine (HP0.out _).mono ?_)
    rintro e wx ⟨rfl, hwx⟩; have hwx := hwx.symm; subst hwx
    refine hK.out _ _ ?_ (fun hHeld => ?_)
    · exact KK.out _ GG.out
    clear hK K
    (try simp only [Act.put, List.setIfInBounds_toArray, List.set_cons_zero, List.set_cons_succ])
    refine wpAnyH_ready (rs := [11]) (by kernel_rfl) (by simp) ?_
    refine AllReadyH.cons (o := ⟨_, _, _, _, _, _⟩) rfl (fun K hK => ?_) ?_
    · go_simp
      go_at_call 16
      (with_reducible refine (HP1.out _).mono ?_)
      rintro e wx ⟨rfl, hwx⟩; have hwx := hwx.symm; subst hwx
      refine hK.out _ _ ?_ (fun hHeld => ?_)
      · exact KK.out _ GG.out
      clear hK K
      (try simp only [Act.put, List.setIfInBounds_toArray, List.set_cons_zero, List.set_cons_succ])
      refine wpAnyH_take (i := 12) (oi := ⟨_, _, _, _, _, _⟩) (v := ?_) rfl (by kernel_rfl) (by kernel_rfl) (by kernel_rfl) (fun _ _ _ h => h) (Or.inl ⟨by rfl, ?_⟩) (by assumption) ?_
      rotate_left 1
      focus (intro w hSw; (try dsimp only at hSw); go_simp; (try with_reducible rfl))
      (try simp only [Act.put, List.setIfInBounds_toArray, List.set_cons_zero, List.set_cons_succ])
      refine wpAnyH_take (i := 13) (oi := ⟨_, _, _, _, _, _⟩) (v := ?_) rfl (by kernel_rfl) (by kernel_rfl) (by kernel_rfl) (fun _ _ _ h => h) (Or.inl ⟨by rfl, ?_⟩) (by assumption) ?_
      rotate_left 1
      focus (intro w hSw; (try dsimp only at hSw); go_simp; (try with_reducible rfl))
      (try simp only [Act.put, List.setIfInBounds_toArray, List.set_cons_zero, List.set_cons_succ])
      refine wpAnyH_ready (rs := [14]) (by kernel_rfl) (by simp) ?_
      refine AllReadyH.cons (o := ⟨_, _, _, _, _, _⟩) rfl (fun K hK => ?_) ?_
      · go_simp
        refine hK.out _ _ ?_ (fun hHeld => ?_)
        · exact KK.out _ (SP.out _ _ GG.out (below_alloc _ _))
        clear hK K
        (try simp only [Act.put, List.setIfInBounds_toArray, List.set_cons_zero, List.set_cons_succ])
        refine wpAnyH_done (by kernel_rfl) ?_ _
        simp only [Exit.then]
        obtain ⟨W7, hW7⟩ : ∃ W7, W7 = W10.drew.alloc (.cells (rplL (⟨(k : Int), z0, tm + 1 + z1⟩ : Rpl)).toArray 55) := ⟨_, rfl⟩
        change wpList _ _ _ _ _ (W10.drew.alloc (.cells (rplL (⟨(k : Int), z0, tm + 1 + z1⟩ : Rpl)).toArray 55))
        rw [← hW7]
        have q7 : P7 W7 := by rw [hW7]; exact SP.out _ _ GG.out (below_alloc _ _)
        rw [HP7.out] at q7
        have m7 := q7.1
        have hnew := new_at W10.drew 55 (rplL (⟨(k : Int), z0, tm + 1 + z1⟩ : Rpl))
        rw [← hW7] at hnew
        have hbase := m7.b.size
        have hown := m7.o.r
        rw [hrl] at hown
        have M7 := Lib.hid m7; have HNEW := Lib.hid hnew; have HOWN := Lib.hid hown
        clear hW7 q7 m7 hnew hown
        go_upto_region 11 with (at_builtin; refine wpList_append_own _ rfl _ _ 31 rfl w4.heap.size 55 ir (.agg #[.int .i64 0, .int .i64 0, .int .i64 0]) 3 24 Try.underlying31 INF.out.1 INF.out.2.1 INF.out.2.2.1 INF.out.2.2.2 rfl (by decide) _ _ _ rfl HOWN.out ⟨W10.heap.size, 0, none⟩ 1 1 (rplL (⟨(k : Int), z0, tm + 1 + z1⟩ : Rpl)) rfl rfl HNEW.out (rplL_one _) (by unfold maxLen; omega) (by omega) hbase ?_; intro v' w8 own8 hg8 _; obtain ⟨g', cap', rfl⟩ := ownsRow_succ own8; rw [← hrl] at own8; have q8 := Bx.addR (p := (⟨(k : Int), z0, tm + 1 + z1⟩ : Rpl)) M7.out hg8 own8; rw [hrl] at q8; obtain ⟨hc8, m8⟩ := q8; obtain ⟨_, _, _, u3, u4, u5⟩ := hc8.three; have N8 := Lib.hid m8; clear own8 hg8 m8 hc8)
        obtain ⟨W11, hW11⟩ : ∃ W, W = w8.setCell ⟨gl, 1, none⟩ (.slice (some ⟨g', 0, none⟩) (NR + 1) cap') := ⟨_, rfl⟩
        rw [← hW11] at N8 ⊢
        clear hW11 u3 u4 u5
        have hb1 : (⟨b.cls, b.rpl ++ [(⟨(k : Int), z0, tm + 1 + z1⟩ : Rpl)], b.fct⟩ : Bk) = ⟨cs.map (·.1), b.rpl ++ [(⟨(k : Int), z0, tm + 1 + z1⟩ : Rpl)], b.fct⟩ := by rw [HCS.out]
        have hv1 : validB ⟨b.cls ++ [], b.rpl ++ [(⟨(k : Int), z0, tm + 1 + z1⟩ : Rpl)], b.fct ++ []⟩ = true := valid_app VB.out (by rw [ENC.out, List.length_nil]; omega) (by rw [ENR.out, List.length_singleton]; omega) (by have := HLN.out.2.2; rw [ENF.out, List.length_nil]; omega) (fun c hc => by cases hc) (fun r hr => by
          rcases List.mem_singleton.1 hr with rfl
          rw [ENC.out, List.length_nil]
          unfold rplB timeB
          simp only [Bool.and_eq_true, decide_eq_true_eq]
          omega) (fun f hf => by cases hf)
        have hsm : SameA b ⟨b.cls ++ [], b.rpl ++ [(⟨(k : Int), z0, tm + 1 + z1⟩ : Rpl)], b.fct ++ []⟩ ⟨th, sy, tm, kn⟩ := same_app rfl rfl rfl (fun c hc => by cases hc) (fun r hr => by
          rcases List.mem_singleton.1 hr with rfl
          have : decide (tm + 1 + z1 ≤ tm) = false := decide_eq_false (by omega)
          dsimp only
          rw [this, Bool.and_false]) (fun f hf => by cases hf)
        rw [List.append_nil, List.append_nil] at hv1 hsm
        have hso1 : soB ⟨b.cls, b.rpl ++ [(⟨(k : Int), z0, tm + 1 + z1⟩ : Rpl)], b.fct⟩ ⟨th, sy, tm, kn⟩ sy = so := by rw [← hsm.so]; exact HSO.out
        have hbk := N8.out.bk hb1 hv1
        have hd := dec_val _ ⟨th, sy, tm, kn⟩ so hv1 AQ.out hso1 _ _ _ _ hbk
        unfold qnC at hd
        dsimp only at hd
        obtain ⟨k0, k1, k2, _, _, _⟩ := N8.out.r.three
        have hQ := QR.out.step N8.out.b
        obtain ⟨q0, q1, q2, q3⟩ := box4 hQ
        have HD := Lib.hid hd
        clear hbk hd hb1 hv1 hsm hso1 hQ
        go_upto_region 12 with (go_at_call 12; (with_reducible refine HD.out.mono ?_); rintro e w12 ⟨E1, e1, f1, rfl, b⟩; replace b := below_step N8.out.b b; replace X := Lib.hid (X.out.step b); replace Y := Lib.hid (Y.out.step b); replace H := Lib.hid (H.out.step b); replace BK := Lib.hid (BK.out.deep b); replace CR := Lib.hid (CR.out.step b); replace QR := Lib.hid (QR.out.step b); replace PF := Lib.hid (PF.out.step b); replace BW := Lib.hid (below_step BW.out b); clear b)
        clear k0 k1 k2 q0 q1 q2 q3 HD N8 M7 HNEW HOWN GG KK SP HP7
        have hss : (so != so) = false := by simp
        have hss2 : (so == so) = true := by simp
        obtain ⟨k0, k1, k2, _, _, _⟩ := CR.out.three
        obtain ⟨bb, o, NA, BA, nc_, bc_, hA, _, _, _, x0, x1, x2, x3, x4, x5⟩ := BK.out.1.get HX.out
        subst hA
        have kNi : (k : Int) < (NC : Int) := by omega
        have hxv := XT.out x (List.mem_of_getElem? HX.out)
        obtain ⟨g0_, g20⟩ := cls_gives hxv.1
        obtain ⟨gv, hgv⟩ : ∃ z, z = x.gives := ⟨_, rfl⟩
        rw [← hgv] at x5 g0_ g20
        have HGV := Lib.hid hgv; have HXV := Lib.hid hxv
        clear hgv hxv
        by_cases hg0 : gv = 0
        · subst hg0
          go_wp2
          go_ret
          exact ⟨rfl, BW.out⟩
        have hge0 : (gv == 0) = false := by simpa using hg0
        have pn := fun W => pick_any nu gv INU.out.1 INU.out.2 (by omega) (by omega) W
        have rn := pk_range (c := nu) (n := gv) (by omega)
        generalize pk nu gv = m at *
        have PN := Lib.hid pn
        clear pn
        go_upto_region 17 with (go_at_call 16; (with_reducible refine (PN.out _).mono ?_); rintro e wx ⟨rfl, hwx⟩; have hwx := hwx.symm; subst hwx)
        obtain ⟨q0, q1, q2, q3⟩ := box4 QR.out
        have haq2 : asksB ⟨th, m, tm, kn⟩ = true := by
          have := AQ.out
          unfold asksB sayB at this ⊢
          simp only [Bool.and_eq_true, decide_eq_true_eq] at this ⊢
          exact ⟨⟨⟨this.1.1.1, by omega⟩, this.1.2⟩, this.2⟩
        obtain ⟨is, his⟩ : ∃ z, z = soB b ⟨th, m, tm, kn⟩ m := ⟨_, rfl⟩
        have hd := dec_val b ⟨th, m, tm, kn⟩ is VB.out haq2 his.symm _ _ _ _ BK.out
        unfold qnC at hd
        dsimp only at hd
        rw [so_says b th m sy tm kn m] at his
        have HD := Lib.hid hd; have HIS := Lib.hid his
        clear hd his haq2 x0 x1 x2 x3 x4 x5
        go_upto_region 18 with (go_at_call 12; (with_reducible refine HD.out.mono ?_); rintro e w13 ⟨E2, e2, f2, rfl, b⟩; replace X := Lib.hid (X.out.step b); replace Y := Lib.hid (Y.out.step b); replace H := Lib.hid (H.out.step b); replace BK := Lib.hid (BK.out.deep b); replace CR := Lib.hid (CR.out.step b); replace QR := Lib.hid (QR.out.step b); replace PF := Lib.hid (PF.out.step b); replace BW := Lib.hid (below_step BW.out b); clear b)
        clear k0 k1 k2 q0 q1 q2 q3 HD
        obtain ⟨k0, k1, k2, _, _, _⟩ := CR.out.three
        have hcp := copy_bx b VB.out (some ⟨bb, o, none⟩) c1 A2 c2 A3 c3
        rw [ENC.out, ENR.out, ENF.out] at hcp
        have HCP2 := Lib.hid hcp
        clear hcp HCP HCS
        go_upto_region 19 with (go_at_call 15; (with_reducible refine (HCP2.out _ BK.out).mono ?_); rintro e w14 ⟨D1, d4, D2, d5, D3, d6, ds, rfl, hcs, hbx⟩; have HCS2 := Lib.hid hcs; have HBX2 := Lib.hid hbx; clear hcs hbx)
        obtain ⟨W14, hW14⟩ : ∃ W, W = w14.alloc (.cells #[.slice D1 ds.length d4, .slice D2 NR d5, .slice D3 NF d6] 34) := ⟨_, rfl⟩
        rw [← hW14] at HBX2 ⊢
        obtain ⟨gw, hgw⟩ : ∃ g, g = w14.heap.size := ⟨_, rfl⟩
        rw [← hgw] at HBX2 ⊢
        clear hW14 hgw k0 k1 k2
        have hlen : ds.length = NC := by have := congrArg List.length HCS2.out; rw [List.length_map, ENC.out] at this; exact this
        obtain ⟨p, hp, hpx⟩ : ∃ p, ds[k]? = some p ∧ p.1 = x := by
          have h1 : (ds.map (·.1))[k]? = some x := by rw [HCS2.out]; exact HX.out
          rw [List.getElem?_map] at h1
          cases h2 : ds[k]? with
          | none => rw [h2] at h1; cases h1
          | some p => rw [h2] at h1; cases h1; exact ⟨p, rfl, rfl⟩
        obtain ⟨px, nv, bv⟩ := p
        dsimp only at hpx
        subst hpx
        obtain ⟨gd, rfl⟩ : ∃ gd, D1 = some ⟨gd, 0, none⟩ := by
          rcases HBX2.out.o.c.2 with ⟨_, h⟩ | ⟨g, _, _, h, _⟩
          · omega
          · cases h; exact ⟨g, rfl⟩
        have hsy := says_of AQ.out
        dsimp only at hsy
        obtain ⟨hu1, hu2⟩ := cls_up HXV.out.1
        obtain ⟨hn3, hb3⟩ := HXV.out.2
        have HP := Lib.hid hp; have HSY := Lib.hid hsy; have HU1 := Lib.hid hu1; have HU2 := Lib.hid hu2; have HL := Lib.hid hlen
        clear hp hsy hu1 hu2
        rw [hlen]
        clear hlen
        cases is
        · have bxx := HBX2.out
          obtain ⟨P7, hP7⟩ : ∃ P : World → Prop, P = fun W => Bx w13 gw (.slice (some ⟨gd, 0, none⟩) ds.length d4) (.slice D2 NR d5) (.slice D3 NF d6) ds b.rpl b.fct W := ⟨_, rfl⟩
          have gg : P7 W14 := by rw [hP7]; exact bxx
          have kk : ∀ W, P7 W → (Hid (P7 W) ∧ W.cell? ⟨gw, 0, none⟩ = some (.slice (some ⟨gd, 0, none⟩) NC d4) ∧ W.cell? ⟨gd, k * 6 + 4, none⟩ = some bv) := fun W h => by
            have h' := h
            rw [hP7] at h'
            refine ⟨Lib.hid h, by have := h'.r.at (i := 0) rfl; rwa [HL.out] at this, ?_⟩
            rw [h'.o.c.cellAt (k * 6 + 4) (by have := (List.getElem?_eq_some_iff.1 HP.out).1; omega), flG_at clsL_len ds k 4 _ HP.out (by omega)]
            rfl
          have sp : ∀ W X, P7 W → Below W.heap.size W X → P7 X := fun W X h hb => by
            rw [hP7] at h ⊢
            exact h.step hb
          have hins := fun (W : World) (h : P7 W) => inserted_any px.bars m bv HU2.out (by omega) W (by rw [hP7] at h; exact (h.o.n _ (List.mem_of_getElem? HP.out)).2)
          have GG := Lib.hid (sp _ _ gg ((Below.refl _ _).drew)); have KK := Lib.hid kk; have SP := Lib.hid sp; have HP7 := Lib.hid hP7; have HINS := Lib.hid hins
          clear hP7 gg kk sp hins bxx
          go_upto_region 21 with (fail)
          refine wp_region_held_head (S := (fun W => (Hid (P7 W) ∧ W.cell? ⟨gw, 0, none⟩ = some (.slice (some ⟨gd, 0, none⟩) NC d4) ∧ W.cell? ⟨gd, k * 6 + 4, none⟩ = some bv))) 11 (by kernel_rfl) (by kernel_rfl) ?_ (fun hHeld => ?_)
          · exact KK.out _ GG.out
          simp only [List.take_succ_cons, List.take_zero, List.drop_succ_cons, List.drop_zero]
          refine wpAnyH_take (i := 0) (oi := ⟨_, _, _, _, _, _⟩) (v := ?_) rfl (by kernel_rfl) (by kernel_rfl) (by kernel_rfl) (fun _ _ _ h => h) (Or.inl ⟨by rfl, ?_⟩) (by assumption) ?_
          rotate_left 1
          focus (intro w hSw; (try dsimp only at hSw); go_simp; (try with_reducible rfl))
          (try simp only [Act.put, List.setIfInBounds_toArray, List.set_cons_zero, List.set_cons_succ])
          refine wpAnyH_take (i := 1) (oi := ⟨_, _, _, _, _, _⟩) (v := ?_) rfl (by kernel_rfl) (by kernel_rfl) (by kernel_rfl) (fun _ _ _ h => h) (Or.inl ⟨by rfl, ?_⟩) (by assumption) ?_
          rotate_left 1
          focus (intro w hSw; (try dsimp only at hSw); go_simp; (try with_reducible rfl))
          (try simp only [Act.put, List.setIfInBounds_toArray, List.set_cons_zero, List.set_cons_succ])
          refine wpAnyH_take (i := 2) (oi := ⟨_, _, _, _, _, _⟩) (v := ?_) rfl (by kernel_rfl) (by kernel_rfl) (by kernel_rfl) (fun _ _ _ h => h) (Or.inl ⟨by rfl, ?_⟩) (by assumption) ?_
          rotate_left 1
          focus (intro w hSw; (try dsimp only at hSw); go_simp; (try with_reducible rfl))
          (try simp only [Act.put, List.setIfInBounds_toArray, List.set_cons_zero, List.set_cons_succ])
          refine wpAnyH_take (i := 3) (oi := ⟨_, _, _, _, _, _⟩) (v := ?_) rfl (by kernel_rfl) (by kernel_rfl) (by kernel_rfl) (fun _ _ _ h => h) (Or.inl ⟨by rfl, ?_⟩) (by assumption) ?_
          rotate_left 1
          focus (intro w hSw; (try dsimp only at hSw); go_simp; (try with_reducible rfl))
          (try simp only [Act.put, List.setIfInBounds_toArray, List.set_cons_zero, List.set_cons_succ])
          refine wpAnyH_take (i := 4) (oi := ⟨_, _, _, _, _, _⟩) (v := ?_) rfl (by kernel_rfl) (by kernel_rfl) (by kernel_rfl) (fun _ _ _ h => h) (Or.inl ⟨by rfl, ?_⟩) (by assumption) ?_
          rotate_left 1
          focus (intro w hSw; (try dsimp only at hSw); go_simp; (try with_reducible rfl))
          (try simp only [Act.put, List.setIfInBounds_toArray, List.set_cons_zero, List.set_cons_succ])
          refine wpAnyH_take (i := 5) (oi := ⟨_, _, _, _, _, _⟩) (v := ?_) rfl (by kernel_rfl) (by kernel_rfl) (by kernel_rfl) (fun _ _ _ h => h) (Or.inl ⟨by rfl, ?_⟩) (by assumption) ?_
          rotate_left 1
          focus (intro w hSw; (try dsimp only at hSw); go_simp; (try with_reducible rfl))
          (try simp only [Act.put, List.setIfInBounds_toArray, List.set_cons_zero, List.set_cons_succ])
          refine wpAnyH_take (i := 6) (oi := ⟨_, _, _, _, _, _⟩) (v := ?_) rfl (by kernel_rfl) (by kernel_rfl) (by kernel_rfl) (fun _ _ _ h => h) (Or.inl ⟨by rfl, ?_⟩) (by assumption) ?_
          rotate_left 1
          focus (intro w hSw; (try dsimp only at hSw); go_simp; (try with_reducible rfl))
          (try simp only [Act.put, List.setIfInBounds_toArray, List.set_cons_zero, List.set_cons_succ])
          refine wpAnyH_take (i := 7) (oi := ⟨_, _, _, _, _, _⟩) (v := ?_) rfl (by kernel_rfl) (by kernel_rfl) (by kernel_rfl) (fun _ _ _ h => h) (Or.inl ⟨by rfl, ?_⟩) (by assumption) ?_
          rotate_left 1
          focus (intro w hSw; (try dsimp only at hSw); go_simp; (try with_reducible rfl))
          (try simp only [Act.put, List.setIfInBounds_toArray, List.set_cons_zero, List.set_cons_succ])
          refine wpAnyH_take (i := 8) (oi := ⟨_, _, _, _, _, _⟩) (v := ?_) rfl (by kernel_rfl) (by kernel_rfl) (by kernel_rfl) (fun _ _ _ h => h) (Or.inl ⟨by rfl, ?_⟩) (by assumption) ?_
          rotate_left 1
          focus (intro w hSw; (try dsimp only at hSw); go_simp; (try with_reducible rfl))
          (try simp only [Act.put, List.setIfInBounds_toArray, List.set_cons_zero, List.set_cons_succ])
          refine wpAnyH_take (i := 9) (oi := ⟨_, _, _, _, _, _⟩) (v := ?_) rfl (by kernel_rfl) (by kernel_rfl) (by kernel_rfl) (fun _ _ _ h => h) (Or.inl ⟨by rfl, ?_⟩) (by assumption) ?_
          rotate_left 1
          focus (intro w hSw; (try dsimp only at hSw); go_simp; (try with_reducible rfl))
          (try simp only [Act.put, List.setIfInBounds_toArray, List.set_cons_zero, List.set_cons_succ])
          refine wpAnyH_ready (rs := [10]) (by kernel_rfl) (by simp) ?_
          refine AllReadyH.cons (o := ⟨_, _, _, _, _, _⟩) rfl (fun K hK => ?_) ?_
          · go_simp
            go_at_call 20
            (with_reducible refine (HINS.out _ GG.out).mono ?_)
            rintro e w15 ⟨v', rfl, o5, b5⟩; obtain ⟨VA, vn, vc, rfl⟩ := own_form o5; have hP5 := SP.out _ _ GG.out b5; have O5 := Lib.hid o5; clear o5 b5
            refine hK.out _ _ ?_ (fun hHeld => ?_)
            · exact KK.out _ hP5
            clear hK K
            (try simp only [Act.put, List.setIfInBounds_toArray, List.set_cons_zero, List.set_cons_succ])
            refine wpAnyH_done (by kernel_rfl) ?_ _
            simp only [Exit.then]
            have bx5 := hP5
            rw [HP7.out] at bx5
            have z3 := (KK.out _ hP5).2.2
            have z0 := (KK.out _ hP5).2.1
            have zf := bx5.o.c.frozenAt (k * 6 + 4)
            have bx6 := bx5.setB HP.out O5.out
            have BX6 := Lib.hid bx6
            clear bx5 bx6
            go_upto_region 22 with (fail)
            obtain ⟨W16, hW16⟩ : ∃ W, W = w15.setCell ⟨gd, k * 6 + 4, none⟩ (.slice VA vn vc) := ⟨_, rfl⟩
            rw [← hW16] at BX6 ⊢
            clear hW16 z0 z3 zf
            have hb2 : (⟨b.cls.set k { px with bars := insI px.bars m }, b.rpl, b.fct⟩ : Bk) = ⟨(ds.set k ({ px with bars := insI px.bars m }, nv, .slice VA vn vc)).map (·.1), b.rpl, b.fct⟩ := by rw [List.map_set, HCS2.out]
            have hv2 : validB ⟨b.cls.set k { px with bars := insI px.bars m }, b.rpl, b.fct⟩ = true := valid_set VB.out (cls_bar HXV.out.1 hb3 (by omega) (by have := HGV.out; omega))
            have hso2 : soB ⟨b.cls.set k { px with bars := insI px.bars m }, b.rpl, b.fct⟩ ⟨th, sy, tm, kn⟩ sy = so := by rw [so_set (low_of VB.out) (low_of hv2) HX.out rfl rfl rfl ⟨rfl, rfl, rfl, rfl⟩ (ok_bar (by rw [← HIS.out]; rfl)) sy HSY.out.1 HSY.out.2]; exact HSO.out
            have hbk := BX6.out.bk hb2 hv2
            have hd := dec_val _ ⟨th, sy, tm, kn⟩ so hv2 AQ.out hso2 _ _ _ _ hbk
            rw [List.length_set, HL.out] at hd
            unfold qnC at hd
            dsimp only at hd
            have hr0 := BX6.out.r
            rw [List.length_set, HL.out] at hr0
            obtain ⟨k0, k1, k2, _, _, _⟩ := hr0.three
            have hQ := QR.out.step BX6.out.b
            obtain ⟨q0, q1, q2, q3⟩ := box4 hQ
            have HD := Lib.hid hd
            clear hbk hd hb2 hv2 hso2 hQ hr0
            go_wp2_with (go_at_call 12; (with_reducible refine HD.out.mono ?_); rintro e w17 ⟨E3, e3, f3, rfl, b3⟩)
            go_ret
            exact ⟨rfl, below_step (below_step BW.out BX6.out.b) b3⟩
          exact AllReadyH.nil
        · have bxx := HBX2.out
          obtain ⟨P7, hP7⟩ : ∃ P : World → Prop, P = fun W => Bx w13 gw (.slice (some ⟨gd, 0, none⟩) ds.length d4) (.slice D2 NR d5) (.slice D3 NF d6) ds b.rpl b.fct W := ⟨_, rfl⟩
          have gg : P7 W14 := by rw [hP7]; exact bxx
          have kk : ∀ W, P7 W → (Hid (P7 W) ∧ W.cell? ⟨gw, 0, none⟩ = some (.slice (some ⟨gd, 0, none⟩) NC d4) ∧ W.cell? ⟨gd, k * 6 + 3, none⟩ = some nv) := fun W h => by
            have h' := h
            rw [hP7] at h'
            refine ⟨Lib.hid h, by have := h'.r.at (i := 0) rfl; rwa [HL.out] at this, ?_⟩
            rw [h'.o.c.cellAt (k * 6 + 3) (by have := (List.getElem?_eq_some_iff.1 HP.out).1; omega), flG_at clsL_len ds k 3 _ HP.out (by omega)]
            rfl
          have sp : ∀ W X, P7 W → Below W.heap.size W X → P7 X := fun W X h hb => by
            rw [hP7] at h ⊢
            exact h.step hb
          have hins := fun (W : World) (h : P7 W) => inserted_any px.needs m nv HU1.out (by omega) W (by rw [hP7] at h; exact (h.o.n _ (List.mem_of_getElem? HP.out)).1)
          have GG := Lib.hid (sp _ _ gg ((Below.refl _ _).drew)); have KK := Lib.hid kk; have SP := Lib.hid sp; have HP7 := Lib.hid hP7; have HINS := Lib.hid hins
          clear hP7 gg kk sp hins bxx
          go_upto_region 20 with (fail)
          refine wp_region_held_head (S := (fun W => (Hid (P7 W) ∧ W.cell? ⟨gw, 0, none⟩ = some (.slice (some ⟨gd, 0, none⟩) NC d4) ∧ W.cell? ⟨gd, k * 6 + 3, none⟩ = some nv))) 11 (by kernel_rfl) (by kernel_rfl) ?_ (fun hHeld => ?_)
          · exact KK.out _ GG.out
          simp only [List.take_succ_cons, List.take_zero, List.drop_succ_cons, List.drop_zero]
          refine wpAnyH_take (i := 0) (oi := ⟨_, _, _, _, _, _⟩) (v := ?_) rfl (by kernel_rfl) (by kernel_rfl) (by kernel_rfl) (fun _ _ _ h => h) (Or.inl ⟨by rfl, ?_⟩) (by assumption) ?_
          rotate_left 1
          focus (intro w hSw; (try dsimp only at hSw); go_simp; (try with_reducible rfl))
          (try simp only [Act.put, List.setIfInBounds_toArray, List.set_cons_zero, List.set_cons_succ])
          refine wpAnyH_take (i := 1) (oi := ⟨_, _, _, _, _, _⟩) (v := ?_) rfl (by kernel_rfl) (by kernel_rfl) (by kernel_rfl) (fun _ _ _ h => h) (Or.inl ⟨by rfl, ?_⟩) (by assumption) ?_
          rotate_left 1
          focus (intro w hSw; (try dsimp only at hSw); go_simp; (try with_reducible rfl))
          (try simp only [Act.put, List.setIfInBounds_toArray, List.set_cons_zero, List.set_cons_succ])
          refine wpAnyH_take (i := 2) (oi := ⟨_, _, _, _, _, _⟩) (v := ?_) rfl (by kernel_rfl) (by kernel_rfl) (by kernel_rfl) (fun _ _ _ h => h) (Or.inl ⟨by rfl, ?_⟩) (by assumption) ?_
          rotate_left 1
          focus (intro w hSw; (try dsimp only at hSw); go_simp; (try with_reducible rfl))
          (try simp only [Act.put, List.setIfInBounds_toArray, List.set_cons_zero, List.set_cons_succ])
          refine wpAnyH_take (i := 3) (oi := ⟨_, _, _, _, _, _⟩) (v := ?_) rfl (by kernel_rfl) (by kernel_rfl) (by kernel_rfl) (fun _ _ _ h => h) (Or.inl ⟨by rfl, ?_⟩) (by assumption) ?_
          rotate_left 1
          focus (intro w hSw; (try dsimp only at hSw); go_simp; (try with_reducible rfl))
          (try simp only [Act.put, List.setIfInBounds_toArray, List.set_cons_zero, List.set_cons_succ])
          refine wpAnyH_take (i := 4) (oi := ⟨_, _, _, _, _, _⟩) (v := ?_) rfl (by kernel_rfl) (by kernel_rfl) (by kernel_rfl) (fun _ _ _ h => h) (Or.inl ⟨by rfl, ?_⟩) (by assumption) ?_
          rotate_left 1
          focus (intro w hSw; (try dsimp only at hSw); go_simp; (try with_reducible rfl))
          (try simp only [Act.put, List.setIfInBounds_toArray, List.set_cons_zero, List.set_cons_succ])
          refine wpAnyH_take (i := 5) (oi := ⟨_, _, _, _, _, _⟩) (v := ?_) rfl (by kernel_rfl) (by kernel_rfl) (by kernel_rfl) (fun _ _ _ h => h) (Or.inl ⟨by rfl, ?_⟩) (by assumption) ?_
          rotate_left 1
          focus (intro w hSw; (try dsimp only at hSw); go_simp; (try with_reducible rfl))
          (try simp only [Act.put, List.setIfInBounds_toArray, List.set_cons_zero, List.set_cons_succ])
          refine wpAnyH_take (i := 6) (oi := ⟨_, _, _, _, _, _⟩) (v := ?_) rfl (by kernel_rfl) (by kernel_rfl) (by kernel_rfl) (fun _ _ _ h => h) (Or.inl ⟨by rfl, ?_⟩) (by assumption) ?_
          rotate_left 1
          focus (intro w hSw; (try dsimp only at hSw); go_simp; (try with_reducible rfl))
          (try simp only [Act.put, List.setIfInBounds_toArray, List.set_cons_zero, List.set_cons_succ])
          refine wpAnyH_take (i := 7) (oi := ⟨_, _, _, _, _, _⟩) (v := ?_) rfl (by kernel_rfl) (by kernel_rfl) (by kernel_rfl) (fun _ _ _ h => h) (Or.inl ⟨by rfl, ?_⟩) (by assumption) ?_
          rotate_left 1
          focus (intro w hSw; (try dsimp only at hSw); go_simp; (try with_reducible rfl))
          (try simp only [Act.put, List.setIfInBounds_toArray, List.set_cons_zero, List.set_cons_succ])
          refine wpAnyH_take (i := 8) (oi := ⟨_, _, _, _, _, _⟩) (v := ?_) rfl (by kernel_rfl) (by kernel_rfl) (by kernel_rfl) (fun _ _ _ h => h) (Or.inl ⟨by rfl, ?_⟩) (by assumption) ?_
          rotate_left 1
          focus (intro w hSw; (try dsimp only at hSw); go_simp; (try with_reducible rfl))
          (try simp only [Act.put, List.setIfInBounds_toArray, List.set_cons_zero, List.set_cons_succ])
          refine wpAnyH_take (i := 9) (oi := ⟨_, _, _, _, _, _⟩) (v := ?_) rfl (by kernel_rfl) (by kernel_rfl) (by kernel_rfl) (fun _ _ _ h => h) (Or.inl ⟨by rfl, ?_⟩) (by assumption) ?_
          rotate_left 1
          focus (intro w hSw; (try dsimp only at hSw); go_simp; (try with_reducible rfl))
          (try simp only [Act.put, List.setIfInBounds_toArray, List.set_cons_zero, List.set_cons_succ])
          refine wpAnyH_ready (rs := [10]) (by kernel_rfl) (by simp) ?_
          refine AllReadyH.cons (o := ⟨_, _, _, _, _, _⟩) rfl (fun K hK => ?_) ?_
          · go_simp
            go_at_call 20
            (with_reducible refine (HINS.out _ GG.out).mono ?_)
            rintro e w15 ⟨v', rfl, o5, b5⟩; obtain ⟨VA, vn, vc, rfl⟩ := own_form o5; have hP5 := SP.out _ _ GG.out b5; have O5 := Lib.hid o5; clear o5 b5
            refine hK.out _ _ ?_ (fun hHeld => ?_)
            · exact KK.out _ hP5
            clear hK K
            (try simp only [Act.put, List.setIfInBounds_toArray, List.set_cons_zero, List.set_cons_succ])
            refine wpAnyH_done (by kernel_rfl) ?_ _
            simp only [Exit.then]
            have bx5 := hP5
            rw [HP7.out] at bx5
            have z3 := (KK.out _ hP5).2.2
            have z0 := (KK.out _ hP5).2.1
            have zf := bx5.o.c.frozenAt (k * 6 + 3)
            have bx6 := bx5.setN HP.out O5.out
            have BX6 := Lib.hid bx6
            clear bx5 bx6
            go_upto_region 22 with (fail)
            obtain ⟨W16, hW16⟩ : ∃ W, W = w15.setCell ⟨gd, k * 6 + 3, none⟩ (.slice VA vn vc) := ⟨_, rfl⟩
            rw [← hW16] at BX6 ⊢
            clear hW16 z0 z3 zf
            have hb2 : (⟨b.cls.set k { px with needs := insI px.needs m }, b.rpl, b.fct⟩ : Bk) = ⟨(ds.set k ({ px with needs := insI px.needs m }, .slice VA vn vc, bv)).map (·.1), b.rpl, b.fct⟩ := by rw [List.map_set, HCS2.out]
            have hv2 : validB ⟨b.cls.set k { px with needs := insI px.needs m }, b.rpl, b.fct⟩ = true := valid_set VB.out (cls_need HXV.out.1 hn3 (by omega) (by have := HGV.out; omega))
            have hso2 : soB ⟨b.cls.set k { px with needs := insI px.needs m }, b.rpl, b.fct⟩ ⟨th, sy, tm, kn⟩ sy = so := by rw [so_set (low_of VB.out) (low_of hv2) HX.out rfl rfl rfl ⟨rfl, rfl, rfl, rfl⟩ (ok_need (by rw [← HIS.out]; rfl)) sy HSY.out.1 HSY.out.2]; exact HSO.out
            have hbk := BX6.out.bk hb2 hv2
            have hd := dec_val _ ⟨th, sy, tm, kn⟩ so hv2 AQ.out hso2 _ _ _ _ hbk
            rw [List.length_set, HL.out] at hd
            unfold qnC at hd
            dsimp only at hd
            have hr0 := BX6.out.r
            rw [List.length_set, HL.out] at hr0
            obtain ⟨k0, k1, k2, _, _, _⟩ := hr0.three
            have hQ := QR.out.step BX6.out.b
            obtain ⟨q0, q1, q2, q3⟩ := box4 hQ
            have HD := Lib.hid hd
            clear hbk hd hb2 hv2 hso2 hQ hr0
            go_wp2_with (go_at_call 12; (with_reducible refine HD.out.mono ?_); rintro e w17 ⟨E3, e3, f3, rfl, b3⟩)
            go_ret
            exact ⟨rfl, below_step (below_step BW.out BX6.out.b) b3⟩
          exact AllReadyH.nil
      exact AllReadyH.nil
    exact AllReadyH.nil
  exact AllReadyH.nil
end Go.Proofs.Ytddeegfdbnmemaa
