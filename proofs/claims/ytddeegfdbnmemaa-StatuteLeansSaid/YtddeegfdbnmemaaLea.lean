/- StatuteLeans: its walk. -/
import Derived.Test.YtddeegfdbnmemaaLm
import Derived.Test.YtddeegfdbnmemaaPm
import Derived.Test.YtddeegfdbnmemaaSq
import Derived.Test.YtddeegfdbnmemaaQh
import Derived.RangeFuncBox
import Derived.Deep.DeepCutAuto
import Derived.Lib.QuietBelow
import Derived.BigQuiet
namespace Go.Proofs.Ytddeegfdbnmemaa
open Go.RowKit Go.Sort Go.Lib
/-- The rules that integers make, as the checker sees them and as rows of one's own. -/
structure BkO (W : World) (cv rv fv : Value) (b : Bk) : Prop where
  k : BkV W W.heap.size cv rv fv b
  o : ∃ B cs, OwnB W B cv rv fv cs b.rpl b.fct ∧ cs.map (·.1) = b.cls
theorem BkO.deep {W X : World} {cv rv fv : Value} {b : Bk} (h : BkO W cv rv fv b) (hb : Below W.heap.size W X) : BkO X cv rv fv b := by
  obtain ⟨B, cs, ho, hc⟩ := h.o
  exact ⟨h.k.deep hb, B, cs, ho.step hb, hc⟩
theorem made_both (C : List Six) (CA : Option Addr) (cc : Nat) (R : List Tri) (RA : Option Addr) (rc : Nat) (F : List Six) (FA : Option Addr) (fc : Nat) (hC : ∀ y ∈ C, In6 y) (hR : ∀ y ∈ R, In3 y) (hF : ∀ y ∈ F, In6 y) (lC : C.length ≤ 9223372036854775807) (lR : R.length ≤ 9223372036854775807) (lF : F.length ≤ 9223372036854775807) (w : World)
    (wC : Cells w w.heap.size CA 6 (C.map fun y => (sixL y).toArray)) (wR : Cells w w.heap.size RA 3 (R.map fun y => (triL y).toArray)) (wF : Cells w w.heap.size FA 6 (F.map fun y => (sixL y).toArray)) (W : World) (hb : Below w.heap.size w W) :
    Calls Try.prog 10 #[bkA CA C.length cc RA R.length rc FA F.length fc] W fun e w' => ∃ A c A2 c2 A3 c3, e = .returned (bkA A (madeB C R F).cls.length c A2 (madeB C R F).rpl.length c2 A3 (madeB C R F).fct.length c3) ∧ BkO w' (.slice A (madeB C R F).cls.length c) (.slice A2 (madeB C R F).rpl.length c2) (.slice A3 (madeB C R F).fct.length c3) (madeB C R F) ∧ Below W.heap.size W w' :=
  (made_ow C CA cc R RA rc F FA fc hC hR hF lC lR lF w wC wR wF W hb).mono fun e w' ⟨A, c, A2, c2, A3, c3, cs, he, ho, hc, hbb⟩ => by
    refine ⟨A, c, A2, c2, A3, c3, he, ⟨?_, _, cs, ho, hc⟩, hbb⟩
    obtain ⟨h1, h2, h3, h4⟩ := small_of (made_valid C R F)
    generalize madeB C R F = b at *
    have hbv := ho.bkv (by have := congrArg List.length hc; rw [List.length_map] at this; show _ ≤ 9223372036854775807; omega) (by show _ ≤ 9223372036854775807; omega) (by show _ ≤ 9223372036854775807; omega) fun p hp => by
      have := h4 p.1 (by rw [← hc]; exact List.mem_map.2 ⟨p, hp, rfl⟩)
      exact ⟨by show _ ≤ 9223372036854775807; omega, by show _ ≤ 9223372036854775807; omega⟩
    rw [hc] at hbv
    exact hbv

set_option maxRecDepth 100000 in
set_option maxHeartbeats 32000000 in
theorem leans_walk (hsane : ∀ W : World, Calls Try.prog 9 #[] W fun e w' => e = .returned (.bool true) ∧ Below W.heap.size W w') (C : List Six) (CA : Option Addr) (Cc : Nat) (R : List Tri) (RA : Option Addr) (Rc : Nat) (F : List Six) (FA : Option Addr) (Fc : Nat) (a0 a1 a2 a3 : Int) (hC : ∀ y ∈ C, In6 y) (hR : ∀ y ∈ R, In3 y) (hF : ∀ y ∈ F, In6 y) (lC : C.length ≤ 9223372036854775807) (lR : R.length ≤ 9223372036854775807) (lF : F.length ≤ 9223372036854775807) (i0 : In64 a0) (i1 : In64 a1) (i2 : In64 a2) (i3 : In64 a3) (w : World) (wC : Cells w w.heap.size CA 6 (C.map fun y => (sixL y).toArray)) (wR : Cells w w.heap.size RA 3 (R.map fun y => (triL y).toArray)) (wF : Cells w w.heap.size FA 6 (F.map fun y => (sixL y).toArray)) :
    Calls Try.prog 5 #[.agg #[.slice CA C.length Cc, .slice RA R.length Rc, .slice FA F.length Fc], .agg #[.int .i64 a0, .int .i64 a1, .int .i64 a2, .int .i64 a3]] w fun e w' => e = .returned (.bool true) ∧ Below w.heap.size w w' := by
  have hmad := made_both C CA Cc R RA Rc F FA Fc hC hR hF lC lR lF w wC wR wF
  have hask := fun W => ask_ref a0 a1 a2 a3 i0 i1 i2 i3 W
  have hvb := made_valid C R F
  have hln := made_len C R F
  have haq := ask_asks a0 a1 a2 a3
  generalize hbb : madeB C R F = b at *
  generalize hqq : askI a0 a1 a2 a3 = q at *
  generalize hNC : b.cls.length = NC at *
  generalize hNR : b.rpl.length = NR at *
  generalize hNF : b.fct.length = NF at *
  generalize C.length = LC at *
  generalize R.length = LR at *
  generalize F.length = LF at *
  have SAN := Lib.hid hsane; have HMAD := Lib.hid hmad; have HASK := Lib.hid hask; have VB := Lib.hid hvb; have AQ := Lib.hid haq; have ENC := Lib.hid hNC; have ENR := Lib.hid hNR; have ENF := Lib.hid hNF; have EB := Lib.hid hbb; have EQ := Lib.hid hqq; have HLN := Lib.hid hln
  clear hsane hmad hask hvb haq hC hR hF lC lR lF wC wR wF i0 i1 i2 i3 hNC hNR hNF hbb hqq hln
  obtain ⟨W0, hW0⟩ : ∃ W0, W0 = ((w.alloc (.cells #[.slice CA LC Cc, .slice RA LR Rc, .slice FA LF Fc] 25)).alloc (.cells #[.int .i64 a0, .int .i64 a1, .int .i64 a2, .int .i64 a3] 26)) := ⟨_, rfl⟩
  have BW : Hid (Below w.heap.size w W0) := Lib.hid (by rw [hW0]; exact keep_alloc (keep_alloc (Below.refl _ _) _) _)
  have X : Hid (Row W0 (w.heap.size) 25 #[.slice CA LC Cc, .slice RA LR Rc, .slice FA LF Fc]) := Lib.hid (by rw [hW0]; exact (Row.made _ _ _).later _)
  have Y : Hid (Row W0 (w.heap.size + 1) 26 #[.int .i64 a0, .int .i64 a1, .int .i64 a2, .int .i64 a3]) := Lib.hid (by rw [hW0]; exact Row.made_at _ _ _ (by simp))
  go_enter Try.func5, Try.ntmps5
  go_upto_region 1 with (fail)
  rw [← hW0]
  clear hW0
  go_upto_region 3 with (go_at_call 9; (with_reducible refine (SAN.out _).mono ?_); rintro e w1 ⟨rfl, b⟩; replace X := Lib.hid (X.out.step b); replace Y := Lib.hid (Y.out.step b); replace BW := Lib.hid (below_step BW.out b); clear b)
  obtain ⟨x0, x1, x2, _, _, _⟩ := X.out.three
  go_upto_region 4 with (go_at_call 10; (with_reducible refine (HMAD.out _ BW.out).mono ?_); rintro e w2 ⟨A1, c1, A2, c2, A3, c3, rfl, bk, b⟩; replace X := Lib.hid (X.out.step b); replace Y := Lib.hid (Y.out.step b); replace BW := Lib.hid (below_step BW.out b); have BK := Lib.hid bk; clear b bk)
  obtain ⟨W2, hW2⟩ : ∃ W, W = w2.alloc (.cells #[.slice A1 NC c1, .slice A2 NR c2, .slice A3 NF c3] 34) := ⟨_, rfl⟩
  rw [← hW2]
  have b : Below w2.heap.size w2 W2 := by rw [hW2]; exact below_alloc _ _
  have CR : Hid (Row W2 w2.heap.size 34 #[.slice A1 NC c1, .slice A2 NR c2, .slice A3 NF c3]) := Lib.hid (by rw [hW2]; exact Row.made _ _ _)
  replace X := Lib.hid (X.out.step b); replace Y := Lib.hid (Y.out.step b); replace BK := Lib.hid (BK.out.deep b); replace BW := Lib.hid (below_step BW.out b)
  obtain ⟨gc, hgc⟩ : ∃ g, g = w2.heap.size := ⟨_, rfl⟩
  rw [← hgc] at CR ⊢
  clear hW2 b x0 x1 x2 hgc
  obtain ⟨y0, y1, y2, y3⟩ := box4 Y.out
  obtain ⟨th, sy, tm, kn⟩ := q
  obtain ⟨bk0, B0, cs, ho0, hcs0⟩ := BK.out
  replace BK := Lib.hid bk0; have OW := Lib.hid ho0; have HCS := Lib.hid hcs0
  clear bk0 ho0 hcs0
  go_upto_region 5 with (go_at_call 11; (with_reducible refine (HASK.out _).mono ?_); rintro e w3 ⟨rfl, b⟩; replace X := Lib.hid (X.out.step b); replace Y := Lib.hid (Y.out.step b); replace BK := Lib.hid (BK.out.deep b); replace CR := Lib.hid (CR.out.step b); replace OW := Lib.hid (OW.out.step b); replace BW := Lib.hid (below_step BW.out b); clear b)
  obtain ⟨W3, hW3⟩ : ∃ W, W = w3.alloc (.cells #[.int .i64 th, .int .i64 sy, .int .i64 tm, .int .i64 kn] 37) := ⟨_, rfl⟩
  unfold qnC
  dsimp only
  rw [← hW3]
  have b : Below w3.heap.size w3 W3 := by rw [hW3]; exact below_alloc _ _
  have QR : Hid (Row W3 w3.heap.size 37 #[.int .i64 th, .int .i64 sy, .int .i64 tm, .int .i64 kn]) := Lib.hid (by rw [hW3]; exact Row.made _ _ _)
  replace X := Lib.hid (X.out.step b); replace Y := Lib.hid (Y.out.step b); replace BK := Lib.hid (BK.out.deep b); replace CR := Lib.hid (CR.out.step b); replace OW := Lib.hid (OW.out.step b); replace BW := Lib.hid (below_step BW.out b)
  obtain ⟨gq, hgq⟩ : ∃ g, g = w3.heap.size := ⟨_, rfl⟩
  rw [← hgq] at QR ⊢
  clear hW3 b y0 y1 y2 y3 hgq
  obtain ⟨k0, k1, k2, _, _, _⟩ := CR.out.three
  obtain ⟨q0, q1, q2, q3⟩ := box4 QR.out
  have hdec := fun (W : World) (h : BkV W W.heap.size (.slice A1 NC c1) (.slice A2 NR c2) (.slice A3 NF c3) b) => decide_prf b ⟨th, sy, tm, kn⟩ VB.out AQ.out _ _ _ W h
  unfold qnC at hdec
  dsimp only at hdec
  generalize hso : soB b ⟨th, sy, tm, kn⟩ sy = so at hdec
  have HDEC := Lib.hid hdec; have HSO := Lib.hid hso
  clear hdec hso
  go_upto_region 6 with (go_at_call 12; (with_reducible refine (HDEC.out _ BK.out).mono ?_); rintro e w4 ⟨g, n, c, l, rfl, pf, ⟨n0, n20⟩, b⟩; replace X := Lib.hid (X.out.step b); replace Y := Lib.hid (Y.out.step b); replace BK := Lib.hid (BK.out.deep b); replace CR := Lib.hid (CR.out.step b); replace OW := Lib.hid (OW.out.step b); replace QR := Lib.hid (QR.out.step b); replace BW := Lib.hid (below_step BW.out b); have PF := Lib.hid pf; clear b pf)
  clear k0 k1 k2 q0 q1 q2 q3
  have hnc := PF.out.cap
  obtain ⟨k0, k1, k2, _, _, _⟩ := CR.out.three
  obtain ⟨q0, q1, q2, q3⟩ := box4 QR.out
  have huse := fun (W : World) (h : BkV W W.heap.size (.slice A1 NC c1) (.slice A2 NR c2) (.slice A3 NF c3) b) (hl : FdsC W (some ⟨g, 0, none⟩) l) => uses_yes b ⟨th, sy, tm, kn⟩ l (some ⟨g, 0, none⟩) c (by rw [PF.out.len]; show n ≤ 9223372036854775807; omega) (by rw [PF.out.len]; exact hnc) _ _ _ W h (bki_of VB.out) hl VB.out AQ.out PF.out.slim.1
  rw [PF.out.len] at huse
  unfold qnC twoR at huse
  dsimp only at huse
  have HUSE := Lib.hid huse
  clear huse
  go_upto_region 7 with (go_at_call 18; (with_reducible refine (HUSE.out _ BK.out PF.out.fds).mono ?_); rintro e w5 ⟨av, bv, rfl, i1, i2, b⟩; replace X := Lib.hid (X.out.step b); replace Y := Lib.hid (Y.out.step b); replace BK := Lib.hid (BK.out.deep b); replace CR := Lib.hid (CR.out.step b); replace OW := Lib.hid (OW.out.step b); replace QR := Lib.hid (QR.out.step b); replace PF := Lib.hid (PF.out.step b); replace BW := Lib.hid (below_step BW.out b); have IF := Lib.hid i1; have IC := Lib.hid i2; clear b i1 i2)
  clear k0 k1 k2 q0 q1 q2 q3 HUSE HDEC
  obtain ⟨hsub, hlv, hlso, hlpr⟩ := less_all VB.out AQ.out PF.out.slim.1
  dsimp only at hlso hlpr
  rw [HSO.out] at hlso
  generalize (usesL b ⟨th, sy, tm, kn⟩ l).2 = Cl at *
  generalize (usesL b ⟨th, sy, tm, kn⟩ l).1 = F' at *
  obtain ⟨FA', fcc, rfl, fb9, hnF⟩ := IF.out
  obtain ⟨CLA, ccc, rfl, cb9, hnC⟩ := IC.out
  obtain ⟨l1, l2⟩ := sub_len hsub
  rw [ENC.out] at l1
  rw [ENF.out] at l2
  have NUF := Lib.hid hnF; have NUC := Lib.hid hnC; have SUB := Lib.hid hsub; have HLV := Lib.hid hlv; have HLSO := Lib.hid hlso; have HLPR := Lib.hid hlpr
  obtain ⟨nl1, nl2, nl3⟩ := HLN.out
  obtain ⟨FN, hFN⟩ : ∃ n, n = F'.length := ⟨_, rfl⟩
  obtain ⟨CN, hCN⟩ : ∃ n, n = Cl.length := ⟨_, rfl⟩
  rw [← hFN] at IF l2 ⊢
  rw [← hCN] at IC l1 ⊢
  have HFN := Lib.hid hFN; have HCN := Lib.hid hCN
  clear hnF hnC hsub hlv hlso hlpr hFN hCN fb9 cb9
  obtain ⟨ic, hc0, hcz, hcs_, hcb⟩ := info_parts cls_info
  obtain ⟨ir, hr0, hrz, hrs_, hrb⟩ := info_parts rpl_info
  obtain ⟨if_, hf0, hfz, hfs_, hfb⟩ := info_parts fct_info
  have INF := Lib.hid (And.intro (And.intro hc0 (And.intro hcz (And.intro hcs_ hcb))) (And.intro (And.intro hr0 (And.intro hrz (And.intro hrs_ hrb))) (And.intro hf0 (And.intro hfz (And.intro hfs_ hfb)))))
  clear hc0 hcz hcs_ hcb hr0 hrz hrs_ hrb hf0 hfz hfs_ hfb
  go_upto_region 10 with (fail)
  obtain ⟨W7, hW7⟩ : ∃ W, W = w5.alloc (.cells #[.slice none 0 0, .slice none 0 0, .slice none 0 0] 34) := ⟨_, rfl⟩
  rw [← hW7]
  have b : Below w5.heap.size w5 W7 := by rw [hW7]; exact below_alloc _ _
  have hbx : Bx w5 w5.heap.size nilS nilS nilS [] [] [] W7 := ⟨OwnB.none _ _, by rw [hW7]; exact Row.made _ _ _, b, Nat.le_refl _⟩
  obtain ⟨gl, hgl⟩ : ∃ g, g = w5.heap.size := ⟨_, rfl⟩
  obtain ⟨B5, hB5⟩ : ∃ g, g = w5 := ⟨_, rfl⟩
  have hbx : Bx B5 gl nilS nilS nilS [] [] [] W7 := by rw [hB5, hgl]; exact hbx
  rw [← hgl]
  rw [← hB5] at BK OW CR QR PF BW X Y IF IC NUF NUC b
  have BX0 := Lib.hid hbx
  clear hW7 b hbx hgl hB5
  go_wp2
  go_loopg [14] FN (fun kx s14 wr => ∃ (k : Nat) (fv : Value) (fs1 : List Fct), s14 = .int .i64 (k : Int) ∧ k + kx = FN ∧ Bx B5 gl nilS nilS fv [] [] fs1 wr ∧ Hid (fs1 = (F'.take k).map (fctOf b)))
  case atStart => exact ⟨0, _, [], rfl, by omega, BX0.out, Lib.hid (by simp)⟩
  case round =>
    clear BX0
    obtain ⟨k, fv, fs1, rfl, hk, hM, HFT⟩ := hrel
    by_cases hlt : k < FN
    · obtain ⟨i, hi⟩ : ∃ i, F'[k]? = some i := at_lt (by rw [← HFN.out]; exact hlt)
      obtain ⟨⟨i0, i1⟩, _⟩ := mem_aF.1 (SUB.out.mf i (List.mem_of_getElem? hi))
      rw [ENF.out] at i1
      have hnm := NUF.out.deep hM.b
      obtain ⟨fb, fo, hFA, hfb, f0⟩ := hnm.at hi
      subst hFA
      have hpv : k = 0 ∨ ∃ (k' : Nat) (j' : Int), k = k' + 1 ∧ wr.cell? ⟨fb, fo + k', none⟩ = some (.int .i64 j') ∧ j' < i := by
        cases k with
        | zero => exact .inl rfl
        | succ k' =>
          obtain ⟨j', hj'⟩ : ∃ i, F'[k']? = some i := at_lt (by rw [← HFN.out]; omega)
          obtain ⟨_, _, hq, _, f1⟩ := hnm.at hj'
          cases hq
          obtain ⟨h1, h2⟩ := List.getElem?_eq_some_iff.1 hi
          obtain ⟨h3, h4⟩ := List.getElem?_eq_some_iff.1 hj'
          have := List.pairwise_iff_getElem.1 SUB.out.uf k' (k' + 1) h3 h1 (by omega)
          exact .inr ⟨k', j', rfl, f1, by rw [← h2, ← h4]; exact this⟩
      obtain ⟨ii, hii⟩ : ∃ ii : Nat, i.toNat = ii := ⟨_, rfl⟩
      rw [hii] at i1
      have hieq : i = (ii : Int) := by omega
      obtain ⟨y, hy⟩ : ∃ y, b.fct[ii]? = some y := at_lt (by rw [ENF.out]; exact i1)
      have hfy : fctOf b i = y := by unfold fctOf; rw [hii, hy]; rfl
      have hec := (OW.out.step hM.b).f
      obtain ⟨gE, hG1, gEl, hcell⟩ := own_elem fctL_len (by rw [ENF.out]; rw [ENF.out] at hec; exact hec) hy
      subst hG1
      have e0 := hcell 0 _ rfl
      have e1 := hcell 1 _ rfl
      have e2 := hcell 2 _ rfl
      have e3 := hcell 3 _ rfl
      have e4 := hcell 4 _ rfl
      have e5 := hcell 5 _ rfl
      rw [Nat.add_zero] at e0
      have xr := CR.out.step hM.b
      have xe2 := xr.at (i := 2) rfl
      obtain ⟨FVA, fvc, rfl⟩ := own_len hM.o.f
      obtain ⟨K, hK⟩ : ∃ K, K = fs1.length := ⟨_, rfl⟩
      have HKK := Lib.hid hK.symm
      have hfl : fs1.length ≤ 8 := by
        rw [HFT.out, List.length_map, List.length_take]
        omega
      have g2 := hM.r.at (i := 2) rfl
      rw [← hK] at hfl g2
      obtain ⟨ft, fy, fa, fb_, fc, fd⟩ := y
      try dsimp only at e0 e1 e2 e3 e4 e5
      have hnx : (F'.take (k + 1)).map (fctOf b) = (F'.take k).map (fctOf b) ++ [(⟨ft, fy, fa, fb_, fc, fd⟩ : Fct)] := by rw [List.take_add_one, hi, List.map_append, ← hfy]; rfl
      have kFi : (k : Int) < (FN : Int) := by omega
      have hiN : i < (NF : Int) := by omega
      have hi0 : (0 : Int) ≤ i := by omega
      have HIE := Lib.hid hieq
      clear hieq
      have HNX := Lib.hid hnx; have MM := Lib.hid hM; have HCELL := Lib.hid (And.intro e0 (And.intro e1 (And.intro e2 (And.intro e3 (And.intro e4 e5)))))
      have G2 := Lib.hid g2; have F0 := Lib.hid f0
      clear hnx hM hnm hi hy hfy hec hcell hK xr e0 e1 e2 e3 e4 e5 g2 hii
      go_upto_region 13 with (fail)
      go_cut [87] (fun s W => s = .bool false ∧ Below wr.heap.size wr W)
      case first =>
        have in0 : ¬ i < 0 := by omega
        have inx : ¬ (NF : Int) ≤ i := by omega
        rcases hpv with hk0 | ⟨k', j', hkk, f1, hjj⟩
        · subst hk0
          rw [Nat.add_zero] at f0
          rw [show ((0 : Nat) : Int) = 0 from rfl] at kFi ⊢
          refine wp_region_held_head (S := (fun W => (W.cell? ⟨fb, fo, none⟩ = some (.int .i64 i) ∧ W.cell? ⟨gc, 2, none⟩ = some (.slice (some ⟨gE, 0, none⟩) NF c3)))) 30 (by kernel_rfl) (by kernel_rfl) ?_ (fun hHeld => ?_)
          · exact ⟨f0, xe2⟩
          simp only [List.take_succ_cons, List.take_zero, List.drop_succ_cons, List.drop_zero]
          refine wpAnyH_take (i := 0) (oi := ⟨_, _, _, _, _, _⟩) (v := ?_) rfl (by kernel_rfl) (by kernel_rfl) (by kernel_rfl) (fun _ _ _ h => h) (Or.inl ⟨by rfl, ?_⟩) (by assumption) ?_
          rotate_left 1
          focus (intro w hSw; (try dsimp only at hSw); go_simp; (try with_reducible rfl))
          (try simp only [Act.put, List.setIfInBounds_toArray, List.set_cons_zero, List.set_cons_succ])
          refine wpAnyH_take (i := 1) (oi := ⟨_, _, _, _, _, _⟩) (v := ?_) rfl (by kernel_rfl) (by kernel_rfl) (by kernel_rfl) (fun _ _ _ h => h) (Or.inl ⟨by rfl, ?_⟩) (by assumption) ?_
          rotate_left 1
          focus (intro w hSw; (try dsimp only at hSw); go_simp; (try with_reducible rfl))
          (try simp only [Act.put, List.setIfInBounds_toArray, List.set_cons_zero, List.set_cons_succ])
          refine wpAnyH_take (i := 2) (oi := ⟨_, _, _, _, _, _⟩) (v := ?_) rfl (by kernel_rfl) (by kernel_rfl) (by kernel_rfl) (fun _ _ _ h => h) (Or.inl ⟨by rfl, ?_⟩) (by assumption) ?_
          rotate_left 1
          focus (intro w hSw; (try dsimp only at hSw); go_simp; (try with_reducible rfl))
          (try simp only [Act.put, List.setIfInBounds_toArray, List.set_cons_zero, List.set_cons_succ])
          refine wpAnyH_take (i := 3) (oi := ⟨_, _, _, _, _, _⟩) (v := ?_) rfl (by kernel_rfl) (by kernel_rfl) (by kernel_rfl) (fun _ _ _ h => h) (Or.inl ⟨by rfl, ?_⟩) (by assumption) ?_
          rotate_left 1
          focus (intro w hSw; (try dsimp only at hSw); go_simp; (try with_reducible rfl))
          (try simp only [Act.put, List.setIfInBounds_toArray, List.set_cons_zero, List.set_cons_succ])
          refine wpAnyH_take (i := 4) (oi := ⟨_, _, _, _, _, _⟩) (v := ?_) rfl (by kernel_rfl) (by kernel_rfl) (by kernel_rfl) (fun _ _ _ h => h) (Or.inl ⟨by rfl, ?_⟩) (by assumption) ?_
          rotate_left 1
          focus (intro w hSw; (try dsimp only at hSw); go_simp; (try with_reducible rfl))
          (try simp only [Act.put, List.setIfInBounds_toArray, List.set_cons_zero, List.set_cons_succ])
          refine wpAnyH_take (i := 5) (oi := ⟨_, _, _, _, _, _⟩) (v := ?_) rfl (by kernel_rfl) (by kernel_rfl) (by kernel_rfl) (fun _ _ _ h => h) (Or.inl ⟨by rfl, ?_⟩) (by assumption) ?_
          rotate_left 1
          focus (intro w hSw; (try dsimp only at hSw); go_simp; (try with_reducible rfl))
          (try simp only [Act.put, List.setIfInBounds_toArray, List.set_cons_zero, List.set_cons_succ])
          refine wpAnyH_take (i := 6) (oi := ⟨_, _, _, _, _, _⟩) (v := ?_) rfl (by kernel_rfl) (by kernel_rfl) (by kernel_rfl) (fun _ _ _ h => h) (Or.inl ⟨by rfl, ?_⟩) (by assumption) ?_
          rotate_left 1
          focus (intro w hSw; (try dsimp only at hSw); go_simp; (try with_reducible rfl))
          (try simp only [Act.put, List.setIfInBounds_toArray, List.set_cons_zero, List.set_cons_succ])
          refine wpAnyH_take (i := 7) (oi := ⟨_, _, _, _, _, _⟩) (v := ?_) rfl (by kernel_rfl) (by kernel_rfl) (by kernel_rfl) (fun _ _ _ h => h) (Or.inl ⟨by rfl, ?_⟩) (by assumption) ?_
          rotate_left 1
          focus (intro w hSw; (try dsimp only at hSw); go_simp; (try with_reducible rfl))
          (try simp only [Act.put, List.setIfInBounds_toArray, List.set_cons_zero, List.set_cons_succ])
          refine wpAnyH_take (i := 8) (oi := ⟨_, _, _, _, _, _⟩) (v := ?_) rfl (by kernel_rfl) (by kernel_rfl) (by kernel_rfl) (fun _ _ _ h => h) (Or.inl ⟨by rfl, ?_⟩) (by assumption) ?_
          rotate_left 1
          focus (intro w hSw; (try dsimp only at hSw); go_simp; (try with_reducible rfl))
          (try simp only [Act.put, List.setIfInBounds_toArray, List.set_cons_zero, List.set_cons_succ])
          refine wpAnyH_take (i := 9) (oi := ⟨_, _, _, _, _, _⟩) (v := ?_) rfl (by kernel_rfl) (by kernel_rfl) (by kernel_rfl) (fun _ _ _ h => h) (Or.inl ⟨by rfl, ?_⟩) (by assumption) ?_
          rotate_left 1
          focus (intro w hSw; (try dsimp only at hSw); go_simp; (try with_reducible rfl))
          (try simp only [Act.put, List.setIfInBounds_toArray, List.set_cons_zero, List.set_cons_succ])
          refine wpAnyH_take (i := 10) (oi := ⟨_, _, _, _, _, _⟩) (v := ?_) rfl (by kernel_rfl) (by kernel_rfl) (by kernel_rfl) (fun _ _ _ h => h) (Or.inl ⟨by rfl, ?_⟩) (by assumption) ?_
          rotate_left 1
          focus (intro w hSw; (try dsimp only at hSw); go_simp; (try with_reducible rfl))
          (try simp only [Act.put, List.setIfInBounds_toArray, List.set_cons_zero, List.set_cons_succ])
          refine wpAnyH_take (i := 11) (oi := ⟨_, _, _, _, _, _⟩) (v := ?_) rfl (by kernel_rfl) (by kernel_rfl) (by kernel_rfl) (fun _ _ _ h => h) (Or.inl ⟨by rfl, ?_⟩) (by assumption) ?_
          rotate_left 1
          focus (intro w hSw; (try dsimp only at hSw); go_simp; (try with_reducible rfl))
          (try simp only [Act.put, List.setIfInBounds_toArray, List.set_cons_zero, List.set_cons_succ])
          refine wpAnyH_take (i := 12) (oi := ⟨_, _, _, _, _, _⟩) (v := ?_) rfl (by kernel_rfl) (by kernel_rfl) (by kernel_rfl) (fun _ _ _ h => h) (Or.inl ⟨by rfl, ?_⟩) (by assumption) ?_
          rotate_left 1
          focus (intro w hSw; (try dsimp only at hSw); go_simp; (try with_reducible rfl))
          (try simp only [Act.put, List.setIfInBounds_toArray, List.set_cons_zero, List.set_cons_succ])
          refine wpAnyH_take (i := 13) (oi := ⟨_, _, _, _, _, _⟩) (v := ?_) rfl (by kernel_rfl) (by kernel_rfl) (by kernel_rfl) (fun _ _ _ h => h) (Or.inl ⟨by rfl, ?_⟩) (by assumption) ?_
          rotate_left 1
          focus (intro w hSw; (try dsimp only at hSw); go_simp; (try with_reducible rfl))
          (try simp only [Act.put, List.setIfInBounds_toArray, List.set_cons_zero, List.set_cons_succ])
          refine wpAnyH_take (i := 14) (oi := ⟨_, _, _, _, _, _⟩) (v := ?_) rfl (by kernel_rfl) (by kernel_rfl) (by kernel_rfl) (fun _ _ _ h => h) (Or.inl ⟨by rfl, ?_⟩) (by assumption) ?_
          rotate_left 1
          focus (intro w hSw; (try dsimp only at hSw); go_simp; (try with_reducible rfl))
          (try simp only [Act.put, List.setIfInBounds_toArray, List.set_cons_zero, List.set_cons_succ])
          refine wpAnyH_take (i := 15) (oi := ⟨_, _, _, _, _, _⟩) (v := ?_) rfl (by kernel_rfl) (by kernel_rfl) (by kernel_rfl) (fun _ _ _ h => h) (Or.inl ⟨by rfl, ?_⟩) (by assumption) ?_
          rotate_left 1
          focus (intro w hSw; (try dsimp only at hSw); go_simp; (try with_reducible rfl))
          (try simp only [Act.put, List.setIfInBounds_toArray, List.set_cons_zero, List.set_cons_succ])
          refine wpAnyH_take (i := 16) (oi := ⟨_, _, _, _, _, _⟩) (v := ?_) rfl (by kernel_rfl) (by kernel_rfl) (by kernel_rfl) (fun _ _ _ h => h) (Or.inl ⟨by rfl, ?_⟩) (by assumption) ?_
          rotate_left 1
          focus (intro w hSw; (try dsimp only at hSw); go_simp; (try with_reducible rfl))
          (try simp only [Act.put, List.setIfInBounds_toArray, List.set_cons_zero, List.set_cons_succ])
          refine wpAnyH_take (i := 17) (oi := ⟨_, _, _, _, _, _⟩) (v := ?_) rfl (by kernel_rfl) (by kernel_rfl) (by kernel_rfl) (fun _ _ _ h => h) (Or.inl ⟨by rfl, ?_⟩) (by assumption) ?_
          rotate_left 1
          focus (intro w hSw; (try dsimp only at hSw); go_simp; (try with_reducible rfl))
          (try simp only [Act.put, List.setIfInBounds_toArray, List.set_cons_zero, List.set_cons_succ])
          refine wpAnyH_take (i := 18) (oi := ⟨_, _, _, _, _, _⟩) (v := ?_) rfl (by kernel_rfl) (by kernel_rfl) (by kernel_rfl) (fun _ _ _ h => h) (Or.inl ⟨by rfl, ?_⟩) (by assumption) ?_
          rotate_left 1
          focus (intro w hSw; (try dsimp only at hSw); go_simp; (try with_reducible rfl))
          (try simp only [Act.put, List.setIfInBounds_toArray, List.set_cons_zero, List.set_cons_succ])
          refine wpAnyH_take (i := 19) (oi := ⟨_, _, _, _, _, _⟩) (v := undef) rfl (by kernel_rfl) (by kernel_rfl) (by kernel_rfl) (fun _ _ _ h => h) (Or.inr ⟨by rfl, rfl⟩) (by assumption) ?_
          (try simp only [Act.put, List.setIfInBounds_toArray, List.set_cons_zero, List.set_cons_succ])
          refine wpAnyH_take (i := 20) (oi := ⟨_, _, _, _, _, _⟩) (v := undef) rfl (by kernel_rfl) (by kernel_rfl) (by kernel_rfl) (fun _ _ _ h => h) (Or.inr ⟨by rfl, rfl⟩) (by assumption) ?_
          (try simp only [Act.put, List.setIfInBounds_toArray, List.set_cons_zero, List.set_cons_succ])
          refine wpAnyH_take (i := 21) (oi := ⟨_, _, _, _, _, _⟩) (v := undef) rfl (by kernel_rfl) (by kernel_rfl) (by kernel_rfl) (fun _ _ _ h => h) (Or.inr ⟨by rfl, rfl⟩) (by assumption) ?_
          (try simp only [Act.put, List.setIfInBounds_toArray, List.set_cons_zero, List.set_cons_succ])
          refine wpAnyH_take (i := 22) (oi := ⟨_, _, _, _, _, _⟩) (v := undef) rfl (by kernel_rfl) (by kernel_rfl) (by kernel_rfl) (fun _ _ _ h => h) (Or.inr ⟨by rfl, rfl⟩) (by assumption) ?_
          (try simp only [Act.put, List.setIfInBounds_toArray, List.set_cons_zero, List.set_cons_succ])
          refine wpAnyH_take (i := 23) (oi := ⟨_, _, _, _, _, _⟩) (v := undef) rfl (by kernel_rfl) (by kernel_rfl) (by kernel_rfl) (fun _ _ _ h => h) (Or.inr ⟨by rfl, rfl⟩) (by assumption) ?_
          (try simp only [Act.put, List.setIfInBounds_toArray, List.set_cons_zero, List.set_cons_succ])
          refine wpAnyH_take (i := 24) (oi := ⟨_, _, _, _, _, _⟩) (v := undef) rfl (by kernel_rfl) (by kernel_rfl) (by kernel_rfl) (fun _ _ _ h => h) (Or.inr ⟨by rfl, rfl⟩) (by assumption) ?_
          (try simp only [Act.put, List.setIfInBounds_toArray, List.set_cons_zero, List.set_cons_succ])
          refine wpAnyH_take (i := 25) (oi := ⟨_, _, _, _, _, _⟩) (v := undef) rfl (by kernel_rfl) (by kernel_rfl) (by kernel_rfl) (fun _ _ _ h => h) (Or.inr ⟨by rfl, rfl⟩) (by assumption) ?_
          (try simp only [Act.put, List.setIfInBounds_toArray, List.set_cons_zero, List.set_cons_succ])
          refine wpAnyH_take (i := 26) (oi := ⟨_, _, _, _, _, _⟩) (v := undef) rfl (by kernel_rfl) (by kernel_rfl) (by kernel_rfl) (fun _ _ _ h => h) (Or.inr ⟨by rfl, rfl⟩) (by assumption) ?_
          (try simp only [Act.put, List.setIfInBounds_toArray, List.set_cons_zero, List.set_cons_succ])
          refine wpAnyH_take (i := 27) (oi := ⟨_, _, _, _, _, _⟩) (v := undef) rfl (by kernel_rfl) (by kernel_rfl) (by kernel_rfl) (fun _ _ _ h => h) (Or.inr ⟨by rfl, rfl⟩) (by assumption) ?_
          (try simp only [Act.put, List.setIfInBounds_toArray, List.set_cons_zero, List.set_cons_succ])
          refine wpAnyH_take (i := 28) (oi := ⟨_, _, _, _, _, _⟩) (v := undef) rfl (by kernel_rfl) (by kernel_rfl) (by kernel_rfl) (fun _ _ _ h => h) (Or.inr ⟨by rfl, rfl⟩) (by assumption) ?_
          (try simp only [Act.put, List.setIfInBounds_toArray, List.set_cons_zero, List.set_cons_succ])
          refine wpAnyH_take (i := 29) (oi := ⟨_, _, _, _, _, _⟩) (v := ?_) rfl (by kernel_rfl) (by kernel_rfl) (by kernel_rfl) (fun _ _ _ h => h) (Or.inl ⟨by rfl, ?_⟩) (by assumption) ?_
          rotate_left 1
          focus (intro w hSw; (try dsimp only at hSw); go_simp; (try with_reducible rfl))
          (try simp only [Act.put, List.setIfInBounds_toArray, List.set_cons_zero, List.set_cons_succ])
          refine wpAnyH_done (by kernel_rfl) ?_ _
          simp only [Exit.then]
          go_wp2_with fail
          go_meet
          case rel => exact ⟨by first | rfl | (simp; omega), (Below.refl _ _).drew⟩
        · have inj : ¬ i ≤ j' := by omega
          have kpos : (0 : Int) < (k : Int) := by omega
          have kposN : 0 < k := by omega
          have kpi : (k' : Int) < (FN : Int) := by omega
          have kw : IntKind.i64.wrap ((k : Int) - 1) = (k' : Int) := by rw [show (k : Int) - 1 = (k' : Int) by omega]; exact IntWalk.i64_in _ (by omega)
          clear hkk
          go_region_held3 (fun W => (W.cell? ⟨fb, fo + k, none⟩ = some (.int .i64 i) ∧ W.cell? ⟨fb, fo + k', none⟩ = some (.int .i64 j') ∧ W.cell? ⟨gc, 2, none⟩ = some (.slice (some ⟨gE, 0, none⟩) NF c3))) (first | exact ⟨f0, f1, xe2⟩ | fail) (fail)
          all_goals go_wp2_with fail
          all_goals go_meet
          all_goals (case rel => exact ⟨by first | rfl | (simp; omega), (Below.refl _ _).drew⟩)
      case rest =>
        obtain ⟨rfl, bc⟩ := hcut
        have hii : i = (ii : Int) := HIE.out
        subst hii
        have e0 := HCELL.out.1; have e1 := HCELL.out.2.1; have e2 := HCELL.out.2.2.1; have e3 := HCELL.out.2.2.2.1; have e4 := HCELL.out.2.2.2.2.1; have e5 := HCELL.out.2.2.2.2.2
        have g2 := G2.out; have f0' := F0.out; have cc2 := xe2
        have iiN : (ii : Int) < (NF : Int) := by omega
        clear hpv f0 xe2
        obtain ⟨P7, hP7⟩ : ∃ P : World → Prop, P = fun W => Below wr.heap.size wr W := ⟨_, rfl⟩
        have gg : P7 wc.drew := by rw [hP7]; exact bc.drew
        have kk : ∀ W, P7 W → (Hid (P7 W) ∧ W.cell? ⟨gl, 2, none⟩ = some (.slice FVA K fvc) ∧ W.cell? ⟨gc, 2, none⟩ = some (.slice (some ⟨gE, 0, none⟩) NF c3) ∧ W.cell? ⟨fb, fo + k, none⟩ = some (.int .i64 (ii : Int)) ∧ W.cell? ⟨gE, ii * 6, none⟩ = some (.int .i64 ft) ∧ W.cell? ⟨gE, ii * 6 + 1, none⟩ = some (.int .i64 fy) ∧ W.cell? ⟨gE, ii * 6 + 2, none⟩ = some (.int .i64 fa) ∧ W.cell? ⟨gE, ii * 6 + 3, none⟩ = some (.int .i64 fb_) ∧ W.cell? ⟨gE, ii * 6 + 4, none⟩ = some (.int .i64 fc) ∧ W.cell? ⟨gE, ii * 6 + 5, none⟩ = some (.int .i64 fd)) := fun W h => by
          have h' := h
          rw [hP7] at h'
          exact ⟨Lib.hid h, cell_of h' g2 (World.block_lt_of_cell? _ _ g2), cell_of h' cc2 (World.block_lt_of_cell? _ _ cc2), cell_of h' f0' (World.block_lt_of_cell? _ _ f0'), cell_of h' e0 (World.block_lt_of_cell? _ _ e0), cell_of h' e1 (World.block_lt_of_cell? _ _ e1), cell_of h' e2 (World.block_lt_of_cell? _ _ e2), cell_of h' e3 (World.block_lt_of_cell? _ _ e3), cell_of h' e4 (World.block_lt_of_cell? _ _ e4), cell_of h' e5 (World.block_lt_of_cell? _ _ e5)⟩
        have sp : ∀ W X, P7 W → Below W.heap.size W X → P7 X := fun W X h hb => by
          rw [hP7] at h ⊢
          exact below_step h hb
        have GG := Lib.hid gg; have KK := Lib.hid kk; have SP := Lib.hid sp; have HP7 := Lib.hid hP7
        clear gg kk sp hP7 g2 cc2 f0' e0 e1 e2 e3 e4 e5
        go_upto_region 15 with (fail)
        refine wp_region_held_head (S := (fun W => (Hid (P7 W) ∧ W.cell? ⟨gl, 2, none⟩ = some (.slice FVA K fvc) ∧ W.cell? ⟨gc, 2, none⟩ = some (.slice (some ⟨gE, 0, none⟩) NF c3) ∧ W.cell? ⟨fb, fo + k, none⟩ = some (.int .i64 (ii : Int)) ∧ W.cell? ⟨gE, ii * 6, none⟩ = some (.int .i64 ft) ∧ W.cell? ⟨gE, ii * 6 + 1, none⟩ = some (.int .i64 fy) ∧ W.cell? ⟨gE, ii * 6 + 2, none⟩ = some (.int .i64 fa) ∧ W.cell? ⟨gE, ii * 6 + 3, none⟩ = some (.int .i64 fb_) ∧ W.cell? ⟨gE, ii * 6 + 4, none⟩ = some (.int .i64 fc) ∧ W.cell? ⟨gE, ii * 6 + 5, none⟩ = some (.int .i64 fd)))) 11 (by kernel_rfl) (by kernel_rfl) ?_ (fun hHeld => ?_)
        · exact KK.out _ GG.out
        simp only [List.take_succ_cons, List.take_zero, List.drop_succ_cons, List.drop_zero]
        refine wpAnyH_take (i := 0) (oi := ⟨_, _, _, _, _, _⟩) (v := ?_) rfl (by kernel_rfl) (by kernel_rfl) (by kernel_rfl) (fun _ _ _ h => h) (Or.inl ⟨by rfl, ?_⟩) (by assumption) ?_
        rotate_left 1
        focus (intro w hSw; (try dsimp only at hSw); go_simp; (try with_reducible rfl))
        (try simp only [Act.put, List.setIfInBounds_toArray, List.set_cons_zero, List.set_cons_succ])
        refine wpAnyH_take (i := 1) (oi := ⟨_, _, _, _, _, _⟩) (v := ?_) rfl (by kernel_rfl) (by kernel_rfl) (by kernel_rfl) (fun _ _ _ h => h) (Or.inl ⟨by rfl, ?_⟩) (by assumption) ?_
        rotate_left 1
        focus (intro w hSw; (try dsimp only at hSw); go_simp; (try with_reducible rfl))
        (try simp only [Act.put, List.setIfInBounds_toArray, List.set_cons_zero, List.set_cons_succ])
        refine wpAnyH_take (i := 2) (oi := ⟨_, _, _, _, _, _⟩) (v := ?_) rfl (by kernel_rfl) (by kernel_rfl) (by kernel_rfl) (fun _ _ _ h => h) (Or.inl ⟨by rfl, ?_⟩) (by assumption) ?_
        rotate_left 1
        focus (intro w hSw; (try dsimp only at hSw); go_simp; (try with_reducible rfl))
        (try simp only [Act.put, List.setIfInBounds_toArray, List.set_cons_zero, List.set_cons_succ])
        refine wpAnyH_take (i := 3) (oi := ⟨_, _, _, _, _, _⟩) (v := ?_) rfl (by kernel_rfl) (by kernel_rfl) (by kernel_rfl) (fun _ _ _ h => h) (Or.inl ⟨by rfl, ?_⟩) (by assumption) ?_
        rotate_left 1
        focus (intro w hSw; (try dsimp only at hSw); go_simp; (try with_reducible rfl))
        (try simp only [Act.put, List.setIfInBounds_toArray, List.set_cons_zero, List.set_cons_succ])
        refine wpAnyH_take (i := 4) (oi := ⟨_, _, _, _, _, _⟩) (v := ?_) rfl (by kernel_rfl) (by kernel_rfl) (by kernel_rfl) (fun _ _ _ h => h) (Or.inl ⟨by rfl, ?_⟩) (by assumption) ?_
        rotate_left 1
        focus (intro w hSw; (try dsimp only at hSw); go_simp; (try with_reducible rfl))
        (try simp only [Act.put, List.setIfInBounds_toArray, List.set_cons_zero, List.set_cons_succ])
        refine wpAnyH_take (i := 5) (oi := ⟨_, _, _, _, _, _⟩) (v := ?_) rfl (by kernel_rfl) (by kernel_rfl) (by kernel_rfl) (fun _ _ _ h => h) (Or.inl ⟨by rfl, ?_⟩) (by assumption) ?_
        rotate_left 1
        focus (intro w hSw; (try dsimp only at hSw); go_simp; (try with_reducible rfl))
        (try simp only [Act.put, List.setIfInBounds_toArray, List.set_cons_zero, List.set_cons_succ])
        refine wpAnyH_take (i := 6) (oi := ⟨_, _, _, _, _, _⟩) (v := ?_) rfl (by kernel_rfl) (by kernel_rfl) (by kernel_rfl) (fun _ _ _ h => h) (Or.inl ⟨by rfl, ?_⟩) (by assumption) ?_
        rotate_left 1
        focus (intro w hSw; (try dsimp only at hSw); go_simp; (try with_reducible rfl))
        (try simp only [Act.put, List.setIfInBounds_toArray, List.set_cons_zero, List.set_cons_succ])
        refine wpAnyH_take (i := 7) (oi := ⟨_, _, _, _, _, _⟩) (v := ?_) rfl (by kernel_rfl) (by kernel_rfl) (by kernel_rfl) (fun _ _ _ h => h) (Or.inl ⟨by rfl, ?_⟩) (by assumption) ?_
        rotate_left 1
        focus (intro w hSw; (try dsimp only at hSw); go_simp; (try with_reducible rfl))
        (try simp only [Act.put, List.setIfInBounds_toArray, List.set_cons_zero, List.set_cons_succ])
        refine wpAnyH_take (i := 8) (oi := ⟨_, _, _, _, _, _⟩) (v := ?_) rfl (by kernel_rfl) (by kernel_rfl) (by kernel_rfl) (fun _ _ _ h => h) (Or.inl ⟨by rfl, ?_⟩) (by assumption) ?_
        rotate_left 1
        focus (intro w hSw; (try dsimp only at hSw); go_simp; (try with_reducible rfl))
        (try simp only [Act.put, List.setIfInBounds_toArray, List.set_cons_zero, List.set_cons_succ])
        refine wpAnyH_take (i := 9) (oi := ⟨_, _, _, _, _, _⟩) (v := ?_) rfl (by kernel_rfl) (by kernel_rfl) (by kernel_rfl) (fun _ _ _ h => h) (Or.inl ⟨by rfl, ?_⟩) (by assumption) ?_
        rotate_left 1
        focus (intro w hSw; (try dsimp only at hSw); go_simp; (try with_reducible rfl))
        (try simp only [Act.put, List.setIfInBounds_toArray, List.set_cons_zero, List.set_cons_succ])
        refine wpAnyH_ready (rs := [10]) (by kernel_rfl) (by simp) ?_
        refine AllReadyH.cons (o := ⟨_, _, _, _, _, _⟩) rfl (fun K hK => ?_) ?_
        · go_simp
          refine hK.out _ _ ?_ (fun hHeld => ?_)
          · exact KK.out _ (SP.out _ _ GG.out (below_alloc _ _))
          clear hK K
          (try simp only [Act.put, List.setIfInBounds_toArray, List.set_cons_zero, List.set_cons_succ])
          refine wpAnyH_done (by kernel_rfl) ?_ _
          simp only [Exit.then]
          obtain ⟨W9, hW9⟩ : ∃ W9, W9 = wc.drew.alloc (.cells (fctL (⟨ft, fy, fa, fb_, fc, fd⟩ : Fct)).toArray 57) := ⟨_, rfl⟩
          change wpList _ _ _ _ _ (wc.drew.alloc (.cells (fctL (⟨ft, fy, fa, fb_, fc, fd⟩ : Fct)).toArray 57))
          rw [← hW9]
          have q7 : P7 W9 := by rw [hW9]; exact SP.out _ _ GG.out (below_alloc _ _)
          have z1 := (KK.out _ q7).2.1
          rw [HP7.out] at q7
          have m7 := MM.out.step q7
          have hnew := new_at wc.drew 57 (fctL (⟨ft, fy, fa, fb_, fc, fd⟩ : Fct))
          rw [← hW9] at hnew
          have hbase := m7.b.size
          have hown := m7.o.f
          rw [HKK.out] at hown
          have M7 := Lib.hid m7; have HNEW := Lib.hid hnew; have HOWN := Lib.hid hown
          clear hW9 q7 m7 hnew hown
          go_wp2_with (at_builtin; refine wpList_append_own _ rfl _ _ 32 rfl B5.heap.size 57 if_ (.agg #[.int .i64 0, .int .i64 0, .int .i64 0, .int .i64 0, .int .i64 0, .int .i64 0]) 6 48 Try.underlying32 INF.out.2.2.1 INF.out.2.2.2.1 INF.out.2.2.2.2.1 INF.out.2.2.2.2.2 rfl (by decide) _ _ _ rfl HOWN.out ⟨wc.heap.size, 0, none⟩ 1 1 (fctL (⟨ft, fy, fa, fb_, fc, fd⟩ : Fct)) rfl rfl HNEW.out (fctL_one _) (by unfold maxLen; omega) (by omega) hbase ?_; intro v' w8 own8 hg8 _; obtain ⟨g', cap', rfl⟩ := ownsRow_succ own8; rw [← HKK.out] at own8; have q8 := Bx.addF (p := (⟨ft, fy, fa, fb_, fc, fd⟩ : Fct)) M7.out (by rw [← HKK.out] at hg8; exact hg8) own8; rw [HKK.out] at q8; obtain ⟨hc8, m8⟩ := q8; obtain ⟨_, _, _, u3, u4, u5⟩ := hc8.three; have N8 := Lib.hid m8; clear own8 hg8 m8 hc8)
          go_roundg (FN - (k + 1))
          case measure => omega
          case rel => exact ⟨k + 1, _, _, by go_num, by omega, N8.out, Lib.hid (by rw [HNX.out, HFT.out])⟩
        exact AllReadyH.nil
    · obtain rfl : k = FN := by omega
      obtain ⟨FVA, fvc, rfl⟩ := own_len hM.o.f
      have hff : fs1 = F'.map (fctOf b) := by rw [HFT.out, List.take_of_length_le (by rw [← HFN.out]; exact Nat.le_refl _)]
      obtain ⟨N1, hN1⟩ : ∃ N, N = fs1.length := ⟨_, rfl⟩
      have MM := Lib.hid hM; have HFF := Lib.hid hff; have HN1 := Lib.hid hN1
      rw [← hN1] at MM
      clear hM hff hN1 HFT hlt hk
      go_wp2
      go_loopg [15] CN (fun kx s15 wr => ∃ (k : Nat) (cv : Value) (cs1 : List CV), s15 = .int .i64 (k : Int) ∧ k + kx = CN ∧ Bx B5 gl cv nilS (.slice FVA N1 fvc) cs1 [] fs1 wr ∧ Hid (cs1.map (·.1) = (Cl.take k).map (clsOf b)))
      case atStart => exact ⟨0, _, [], rfl, by omega, MM.out, Lib.hid (by simp)⟩
      case round =>
        clear MM
        obtain ⟨k, cv, cs1, rfl, hk, hM, HCT⟩ := hrel
        by_cases hlt : k < CN
        · obtain ⟨i, hi⟩ : ∃ i, Cl[k]? = some i := at_lt (by rw [← HCN.out]; exact hlt)
          obtain ⟨⟨i0, i1⟩, _⟩ := mem_aC.1 (SUB.out.mc i (List.mem_of_getElem? hi))
          rw [ENC.out] at i1
          have hnm := NUC.out.deep hM.b
          obtain ⟨fb, fo, hFA, hfb, f0⟩ := hnm.at hi
          subst hFA
          have hpv : k = 0 ∨ ∃ (k' : Nat) (j' : Int), k = k' + 1 ∧ wr.cell? ⟨fb, fo + k', none⟩ = some (.int .i64 j') ∧ j' < i := by
            cases k with
            | zero => exact .inl rfl
            | succ k' =>
              obtain ⟨j', hj'⟩ : ∃ i, Cl[k']? = some i := at_lt (by rw [← HCN.out]; omega)
              obtain ⟨_, _, hq, _, f1⟩ := hnm.at hj'
              cases hq
              obtain ⟨h1, h2⟩ := List.getElem?_eq_some_iff.1 hi
              obtain ⟨h3, h4⟩ := List.getElem?_eq_some_iff.1 hj'
              have := List.pairwise_iff_getElem.1 SUB.out.uc k' (k' + 1) h3 h1 (by omega)
              exact .inr ⟨k', j', rfl, f1, by rw [← h2, ← h4]; exact this⟩
          obtain ⟨ii, hii⟩ : ∃ ii : Nat, i.toNat = ii := ⟨_, rfl⟩
          rw [hii] at i1
          have hieq : i = (ii : Int) := by omega
          have csl : cs.length = NC := by have := congrArg List.length HCS.out; rw [List.length_map, ENC.out] at this; exact this
          obtain ⟨⟨y, ynv, ybv⟩, hp⟩ : ∃ p, cs[ii]? = some p := at_lt (by rw [csl]; exact i1)
          have hy : b.cls[ii]? = some y := by rw [← HCS.out, List.getElem?_map, hp]; rfl
          have hfy : clsOf b i = y := by unfold clsOf; rw [hii, hy]; rfl
          have hoe := (OW.out.step hM.b)
          obtain ⟨gE, hG1, gEl, hcell⟩ := own_elem clsL_len (by rw [csl]; have := hoe.c; rw [csl] at this; exact this) hp
          subst hG1
          obtain ⟨NA, nl, nc_, rfl⟩ := own_form (hoe.n _ (List.mem_of_getElem? hp)).1
          obtain ⟨BA, bl, bc_, rfl⟩ := own_form (hoe.n _ (List.mem_of_getElem? hp)).2
          have e0 := hcell 0 _ rfl
          have e1 := hcell 1 _ rfl
          have e2 := hcell 2 _ rfl
          have e3 := hcell 3 _ rfl
          have e4 := hcell 4 _ rfl
          have e5 := hcell 5 _ rfl
          rw [Nat.add_zero] at e0
          have irn := fun (W : World) (hb : Below wr.heap.size wr W) => And.intro ((hoe.n _ (List.mem_of_getElem? hp)).1.step hb) ((hoe.n _ (List.mem_of_getElem? hp)).2.step hb)
          have xr := CR.out.step hM.b
          have xe2 := xr.at (i := 0) rfl
          obtain ⟨CVA, cvc, rfl⟩ := own_len hM.o.c
          obtain ⟨K, hK⟩ : ∃ K, K = cs1.length := ⟨_, rfl⟩
          have HKK := Lib.hid hK.symm
          have hfl : cs1.length ≤ 8 := by
            have := congrArg List.length HCT.out
            rw [List.length_map, List.length_map, List.length_take] at this
            omega
          have g2 := hM.r.at (i := 0) rfl
          rw [← hK] at hfl g2
          obtain ⟨pub, sf, se, needs, bars, gives⟩ := y
          dsimp only at e0 e1 e2 e3 e4 e5 irn
          have hnx : (Cl.take (k + 1)).map (clsOf b) = (Cl.take k).map (clsOf b) ++ [⟨pub, sf, se, needs, bars, gives⟩] := by rw [List.take_add_one, hi, List.map_append, ← hfy]; rfl
          have kFi : (k : Int) < (CN : Int) := by omega
          have hiN : i < (NC : Int) := by omega
          have hi0 : (0 : Int) ≤ i := by omega
          have HIE := Lib.hid hieq
          have HNX := Lib.hid hnx; have MM := Lib.hid hM; have IRN := Lib.hid irn; have HCELL := Lib.hid (And.intro e0 (And.intro e1 (And.intro e2 (And.intro e3 (And.intro e4 e5)))))
          have G2 := Lib.hid g2; have F0 := Lib.hid f0
          clear hieq hnx hM hnm hi hy hp hfy hoe hcell hK xr e0 e1 e2 e3 e4 e5 g2 hii irn csl
          go_upto_region 19 with (fail)
          go_cut [137] (fun s W => s = .bool false ∧ Below wr.heap.size wr W)
          case first =>
            have in0 : ¬ i < 0 := by omega
            have inx : ¬ (NC : Int) ≤ i := by omega
            rcases hpv with hk0 | ⟨k', j', hkk, f1, hjj⟩
            · subst hk0
              rw [Nat.add_zero] at f0
              rw [show ((0 : Nat) : Int) = 0 from rfl] at kFi ⊢
              refine wp_region_held_head (S := (fun W => (W.cell? ⟨fb, fo, none⟩ = some (.int .i64 i) ∧ W.cell? ⟨gc, 0, none⟩ = some (.slice (some ⟨gE, 0, none⟩) NC c1)))) 30 (by kernel_rfl) (by kernel_rfl) ?_ (fun hHeld => ?_)
              · exact ⟨f0, xe2⟩
              simp only [List.take_succ_cons, List.take_zero, List.drop_succ_cons, List.drop_zero]
              refine wpAnyH_take (i := 0) (oi := ⟨_, _, _, _, _, _⟩) (v := ?_) rfl (by kernel_rfl) (by kernel_rfl) (by kernel_rfl) (fun _ _ _ h => h) (Or.inl ⟨by rfl, ?_⟩) (by assumption) ?_
              rotate_left 1
              focus (intro w hSw; (try dsimp only at hSw); go_simp; (try with_reducible rfl))
              (try simp only [Act.put, List.setIfInBounds_toArray, List.set_cons_zero, List.set_cons_succ])
              refine wpAnyH_take (i := 1) (oi := ⟨_, _, _, _, _, _⟩) (v := ?_) rfl (by kernel_rfl) (by kernel_rfl) (by kernel_rfl) (fun _ _ _ h => h) (Or.inl ⟨by rfl, ?_⟩) (by assumption) ?_
              rotate_left 1
              focus (intro w hSw; (try dsimp only at hSw); go_simp; (try with_reducible rfl))
              (try simp only [Act.put, List.setIfInBounds_toArray, List.set_cons_zero, List.set_cons_succ])
              refine wpAnyH_take (i := 2) (oi := ⟨_, _, _, _, _, _⟩) (v := ?_) rfl (by kernel_rfl) (by kernel_rfl) (by kernel_rfl) (fun _ _ _ h => h) (Or.inl ⟨by rfl, ?_⟩) (by assumption) ?_
              rotate_left 1
              focus (intro w hSw; (try dsimp only at hSw); go_simp; (try with_reducible rfl))
              (try simp only [Act.put, List.setIfInBounds_toArray, List.set_cons_zero, List.set_cons_succ])
              refine wpAnyH_take (i := 3) (oi := ⟨_, _, _, _, _, _⟩) (v := ?_) rfl (by kernel_rfl) (by kernel_rfl) (by kernel_rfl) (fun _ _ _ h => h) (Or.inl ⟨by rfl, ?_⟩) (by assumption) ?_
              rotate_left 1
              focus (intro w hSw; (try dsimp only at hSw); go_simp; (try with_reducible rfl))
              (try simp only [Act.put, List.setIfInBounds_toArray, List.set_cons_zero, List.set_cons_succ])
              refine wpAnyH_take (i := 4) (oi := ⟨_, _, _, _, _, _⟩) (v := ?_) rfl (by kernel_rfl) (by kernel_rfl) (by kernel_rfl) (fun _ _ _ h => h) (Or.inl ⟨by rfl, ?_⟩) (by assumption) ?_
              rotate_left 1
              focus (intro w hSw; (try dsimp only at hSw); go_simp; (try with_reducible rfl))
              (try simp only [Act.put, List.setIfInBounds_toArray, List.set_cons_zero, List.set_cons_succ])
              refine wpAnyH_take (i := 5) (oi := ⟨_, _, _, _, _, _⟩) (v := ?_) rfl (by kernel_rfl) (by kernel_rfl) (by kernel_rfl) (fun _ _ _ h => h) (Or.inl ⟨by rfl, ?_⟩) (by assumption) ?_
              rotate_left 1
              focus (intro w hSw; (try dsimp only at hSw); go_simp; (try with_reducible rfl))
              (try simp only [Act.put, List.setIfInBounds_toArray, List.set_cons_zero, List.set_cons_succ])
              refine wpAnyH_take (i := 6) (oi := ⟨_, _, _, _, _, _⟩) (v := ?_) rfl (by kernel_rfl) (by kernel_rfl) (by kernel_rfl) (fun _ _ _ h => h) (Or.inl ⟨by rfl, ?_⟩) (by assumption) ?_
              rotate_left 1
              focus (intro w hSw; (try dsimp only at hSw); go_simp; (try with_reducible rfl))
              (try simp only [Act.put, List.setIfInBounds_toArray, List.set_cons_zero, List.set_cons_succ])
              refine wpAnyH_take (i := 7) (oi := ⟨_, _, _, _, _, _⟩) (v := ?_) rfl (by kernel_rfl) (by kernel_rfl) (by kernel_rfl) (fun _ _ _ h => h) (Or.inl ⟨by rfl, ?_⟩) (by assumption) ?_
              rotate_left 1
              focus (intro w hSw; (try dsimp only at hSw); go_simp; (try with_reducible rfl))
              (try simp only [Act.put, List.setIfInBounds_toArray, List.set_cons_zero, List.set_cons_succ])
              refine wpAnyH_take (i := 8) (oi := ⟨_, _, _, _, _, _⟩) (v := ?_) rfl (by kernel_rfl) (by kernel_rfl) (by kernel_rfl) (fun _ _ _ h => h) (Or.inl ⟨by rfl, ?_⟩) (by assumption) ?_
              rotate_left 1
              focus (intro w hSw; (try dsimp only at hSw); go_simp; (try with_reducible rfl))
              (try simp only [Act.put, List.setIfInBounds_toArray, List.set_cons_zero, List.set_cons_succ])
              refine wpAnyH_take (i := 9) (oi := ⟨_, _, _, _, _, _⟩) (v := ?_) rfl (by kernel_rfl) (by kernel_rfl) (by kernel_rfl) (fun _ _ _ h => h) (Or.inl ⟨by rfl, ?_⟩) (by assumption) ?_
              rotate_left 1
              focus (intro w hSw; (try dsimp only at hSw); go_simp; (try with_reducible rfl))
              (try simp only [Act.put, List.setIfInBounds_toArray, List.set_cons_zero, List.set_cons_succ])
              refine wpAnyH_take (i := 10) (oi := ⟨_, _, _, _, _, _⟩) (v := ?_) rfl (by kernel_rfl) (by kernel_rfl) (by kernel_rfl) (fun _ _ _ h => h) (Or.inl ⟨by rfl, ?_⟩) (by assumption) ?_
              rotate_left 1
              focus (intro w hSw; (try dsimp only at hSw); go_simp; (try with_reducible rfl))
              (try simp only [Act.put, List.setIfInBounds_toArray, List.set_cons_zero, List.set_cons_succ])
              refine wpAnyH_take (i := 11) (oi := ⟨_, _, _, _, _, _⟩) (v := ?_) rfl (by kernel_rfl) (by kernel_rfl) (by kernel_rfl) (fun _ _ _ h => h) (Or.inl ⟨by rfl, ?_⟩) (by assumption) ?_
              rotate_left 1
              focus (intro w hSw; (try dsimp only at hSw); go_simp; (try with_reducible rfl))
              (try simp only [Act.put, List.setIfInBounds_toArray, List.set_cons_zero, List.set_cons_succ])
              refine wpAnyH_take (i := 12) (oi := ⟨_, _, _, _, _, _⟩) (v := ?_) rfl (by kernel_rfl) (by kernel_rfl) (by kernel_rfl) (fun _ _ _ h => h) (Or.inl ⟨by rfl, ?_⟩) (by assumption) ?_
              rotate_left 1
              focus (intro w hSw; (try dsimp only at hSw); go_simp; (try with_reducible rfl))
              (try simp only [Act.put, List.setIfInBounds_toArray, List.set_cons_zero, List.set_cons_succ])
              refine wpAnyH_take (i := 13) (oi := ⟨_, _, _, _, _, _⟩) (v := ?_) rfl (by kernel_rfl) (by kernel_rfl) (by kernel_rfl) (fun _ _ _ h => h) (Or.inl ⟨by rfl, ?_⟩) (by assumption) ?_
              rotate_left 1
              focus (intro w hSw; (try dsimp only at hSw); go_simp; (try with_reducible rfl))
              (try simp only [Act.put, List.setIfInBounds_toArray, List.set_cons_zero, List.set_cons_succ])
              refine wpAnyH_take (i := 14) (oi := ⟨_, _, _, _, _, _⟩) (v := ?_) rfl (by kernel_rfl) (by kernel_rfl) (by kernel_rfl) (fun _ _ _ h => h) (Or.inl ⟨by rfl, ?_⟩) (by assumption) ?_
              rotate_left 1
              focus (intro w hSw; (try dsimp only at hSw); go_simp; (try with_reducible rfl))
              (try simp only [Act.put, List.setIfInBounds_toArray, List.set_cons_zero, List.set_cons_succ])
              refine wpAnyH_take (i := 15) (oi := ⟨_, _, _, _, _, _⟩) (v := ?_) rfl (by kernel_rfl) (by kernel_rfl) (by kernel_rfl) (fun _ _ _ h => h) (Or.inl ⟨by rfl, ?_⟩) (by assumption) ?_
              rotate_left 1
              focus (intro w hSw; (try dsimp only at hSw); go_simp; (try with_reducible rfl))
              (try simp only [Act.put, List.setIfInBounds_toArray, List.set_cons_zero, List.set_cons_succ])
              refine wpAnyH_take (i := 16) (oi := ⟨_, _, _, _, _, _⟩) (v := ?_) rfl (by kernel_rfl) (by kernel_rfl) (by kernel_rfl) (fun _ _ _ h => h) (Or.inl ⟨by rfl, ?_⟩) (by assumption) ?_
              rotate_left 1
              focus (intro w hSw; (try dsimp only at hSw); go_simp; (try with_reducible rfl))
              (try simp only [Act.put, List.setIfInBounds_toArray, List.set_cons_zero, List.set_cons_succ])
              refine wpAnyH_take (i := 17) (oi := ⟨_, _, _, _, _, _⟩) (v := ?_) rfl (by kernel_rfl) (by kernel_rfl) (by kernel_rfl) (fun _ _ _ h => h) (Or.inl ⟨by rfl, ?_⟩) (by assumption) ?_
              rotate_left 1
              focus (intro w hSw; (try dsimp only at hSw); go_simp; (try with_reducible rfl))
              (try simp only [Act.put, List.setIfInBounds_toArray, List.set_cons_zero, List.set_cons_succ])
              refine wpAnyH_take (i := 18) (oi := ⟨_, _, _, _, _, _⟩) (v := ?_) rfl (by kernel_rfl) (by kernel_rfl) (by kernel_rfl) (fun _ _ _ h => h) (Or.inl ⟨by rfl, ?_⟩) (by assumption) ?_
              rotate_left 1
              focus (intro w hSw; (try dsimp only at hSw); go_simp; (try with_reducible rfl))
              (try simp only [Act.put, List.setIfInBounds_toArray, List.set_cons_zero, List.set_cons_succ])
              refine wpAnyH_take (i := 19) (oi := ⟨_, _, _, _, _, _⟩) (v := undef) rfl (by kernel_rfl) (by kernel_rfl) (by kernel_rfl) (fun _ _ _ h => h) (Or.inr ⟨by rfl, rfl⟩) (by assumption) ?_
              (try simp only [Act.put, List.setIfInBounds_toArray, List.set_cons_zero, List.set_cons_succ])
              refine wpAnyH_take (i := 20) (oi := ⟨_, _, _, _, _, _⟩) (v := undef) rfl (by kernel_rfl) (by kernel_rfl) (by kernel_rfl) (fun _ _ _ h => h) (Or.inr ⟨by rfl, rfl⟩) (by assumption) ?_
              (try simp only [Act.put, List.setIfInBounds_toArray, List.set_cons_zero, List.set_cons_succ])
              refine wpAnyH_take (i := 21) (oi := ⟨_, _, _, _, _, _⟩) (v := undef) rfl (by kernel_rfl) (by kernel_rfl) (by kernel_rfl) (fun _ _ _ h => h) (Or.inr ⟨by rfl, rfl⟩) (by assumption) ?_
              (try simp only [Act.put, List.setIfInBounds_toArray, List.set_cons_zero, List.set_cons_succ])
              refine wpAnyH_take (i := 22) (oi := ⟨_, _, _, _, _, _⟩) (v := undef) rfl (by kernel_rfl) (by kernel_rfl) (by kernel_rfl) (fun _ _ _ h => h) (Or.inr ⟨by rfl, rfl⟩) (by assumption) ?_
              (try simp only [Act.put, List.setIfInBounds_toArray, List.set_cons_zero, List.set_cons_succ])
              refine wpAnyH_take (i := 23) (oi := ⟨_, _, _, _, _, _⟩) (v := undef) rfl (by kernel_rfl) (by kernel_rfl) (by kernel_rfl) (fun _ _ _ h => h) (Or.inr ⟨by rfl, rfl⟩) (by assumption) ?_
              (try simp only [Act.put, List.setIfInBounds_toArray, List.set_cons_zero, List.set_cons_succ])
              refine wpAnyH_take (i := 24) (oi := ⟨_, _, _, _, _, _⟩) (v := undef) rfl (by kernel_rfl) (by kernel_rfl) (by kernel_rfl) (fun _ _ _ h => h) (Or.inr ⟨by rfl, rfl⟩) (by assumption) ?_
              (try simp only [Act.put, List.setIfInBounds_toArray, List.set_cons_zero, List.set_cons_succ])
              refine wpAnyH_take (i := 25) (oi := ⟨_, _, _, _, _, _⟩) (v := undef) rfl (by kernel_rfl) (by kernel_rfl) (by kernel_rfl) (fun _ _ _ h => h) (Or.inr ⟨by rfl, rfl⟩) (by assumption) ?_
              (try simp only [Act.put, List.setIfInBounds_toArray, List.set_cons_zero, List.set_cons_succ])
              refine wpAnyH_take (i := 26) (oi := ⟨_, _, _, _, _, _⟩) (v := undef) rfl (by kernel_rfl) (by kernel_rfl) (by kernel_rfl) (fun _ _ _ h => h) (Or.inr ⟨by rfl, rfl⟩) (by assumption) ?_
              (try simp only [Act.put, List.setIfInBounds_toArray, List.set_cons_zero, List.set_cons_succ])
              refine wpAnyH_take (i := 27) (oi := ⟨_, _, _, _, _, _⟩) (v := undef) rfl (by kernel_rfl) (by kernel_rfl) (by kernel_rfl) (fun _ _ _ h => h) (Or.inr ⟨by rfl, rfl⟩) (by assumption) ?_
              (try simp only [Act.put, List.setIfInBounds_toArray, List.set_cons_zero, List.set_cons_succ])
              refine wpAnyH_take (i := 28) (oi := ⟨_, _, _, _, _, _⟩) (v := undef) rfl (by kernel_rfl) (by kernel_rfl) (by kernel_rfl) (fun _ _ _ h => h) (Or.inr ⟨by rfl, rfl⟩) (by assumption) ?_
              (try simp only [Act.put, List.setIfInBounds_toArray, List.set_cons_zero, List.set_cons_succ])
              refine wpAnyH_take (i := 29) (oi := ⟨_, _, _, _, _, _⟩) (v := ?_) rfl (by kernel_rfl) (by kernel_rfl) (by kernel_rfl) (fun _ _ _ h => h) (Or.inl ⟨by rfl, ?_⟩) (by assumption) ?_
              rotate_left 1
              focus (intro w hSw; (try dsimp only at hSw); go_simp; (try with_reducible rfl))
              (try simp only [Act.put, List.setIfInBounds_toArray, List.set_cons_zero, List.set_cons_succ])
              refine wpAnyH_done (by kernel_rfl) ?_ _
              simp only [Exit.then]
              go_wp2_with fail
              go_meet
              case rel => exact ⟨by first | rfl | (simp; omega), (Below.refl _ _).drew⟩
            · have inj : ¬ i ≤ j' := by omega
              have kpos : (0 : Int) < (k : Int) := by omega
              have kposN : 0 < k := by omega
              have kpi : (k' : Int) < (CN : Int) := by omega
              have kw : IntKind.i64.wrap ((k : Int) - 1) = (k' : Int) := by rw [show (k : Int) - 1 = (k' : Int) by omega]; exact IntWalk.i64_in _ (by omega)
              clear hkk
              go_region_held3 (fun W => (W.cell? ⟨fb, fo + k, none⟩ = some (.int .i64 i) ∧ W.cell? ⟨fb, fo + k', none⟩ = some (.int .i64 j') ∧ W.cell? ⟨gc, 0, none⟩ = some (.slice (some ⟨gE, 0, none⟩) NC c1))) (first | exact ⟨f0, f1, xe2⟩ | fail) (fail)
              all_goals go_wp2_with fail
              all_goals go_meet
              all_goals (case rel => exact ⟨by first | rfl | (simp; omega), (Below.refl _ _).drew⟩)
          case rest =>
            obtain ⟨rfl, bc⟩ := hcut
            have hii : i = (ii : Int) := HIE.out
            subst hii
            have e0 := HCELL.out.1; have e1 := HCELL.out.2.1; have e2 := HCELL.out.2.2.1; have e3 := HCELL.out.2.2.2.1; have e4 := HCELL.out.2.2.2.2.1; have e5 := HCELL.out.2.2.2.2.2
            have g2 := G2.out; have f0' := F0.out; have cc2 := xe2
            have iiN : (ii : Int) < (NC : Int) := by omega
            clear hpv f0 xe2
            obtain ⟨P7, hP7⟩ : ∃ P : World → Prop, P = fun W => Below wr.heap.size wr W := ⟨_, rfl⟩
            have gg : P7 wc.drew := by rw [hP7]; exact bc.drew
            have kk : ∀ W, P7 W → (Hid (P7 W) ∧ W.cell? ⟨gl, 0, none⟩ = some (.slice CVA K cvc) ∧ W.cell? ⟨gc, 0, none⟩ = some (.slice (some ⟨gE, 0, none⟩) NC c1) ∧ W.cell? ⟨fb, fo + k, none⟩ = some (.int .i64 (ii : Int)) ∧ W.cell? ⟨gE, ii * 6, none⟩ = some (.int .i64 pub) ∧ W.cell? ⟨gE, ii * 6 + 1, none⟩ = some (.int .i64 sf) ∧ W.cell? ⟨gE, ii * 6 + 2, none⟩ = some (.int .i64 se) ∧ W.cell? ⟨gE, ii * 6 + 3, none⟩ = some (.slice NA nl nc_) ∧ W.cell? ⟨gE, ii * 6 + 4, none⟩ = some (.slice BA bl bc_) ∧ W.cell? ⟨gE, ii * 6 + 5, none⟩ = some (.int .i64 gives)) := fun W h => by
              have h' := h
              rw [hP7] at h'
              exact ⟨Lib.hid h, cell_of h' g2 (World.block_lt_of_cell? _ _ g2), cell_of h' cc2 (World.block_lt_of_cell? _ _ cc2), cell_of h' f0' (World.block_lt_of_cell? _ _ f0'), cell_of h' e0 (World.block_lt_of_cell? _ _ e0), cell_of h' e1 (World.block_lt_of_cell? _ _ e1), cell_of h' e2 (World.block_lt_of_cell? _ _ e2), cell_of h' e3 (World.block_lt_of_cell? _ _ e3), cell_of h' e4 (World.block_lt_of_cell? _ _ e4), cell_of h' e5 (World.block_lt_of_cell? _ _ e5)⟩
            have sp : ∀ W X, P7 W → Below W.heap.size W X → P7 X := fun W X h hb => by
              rw [hP7] at h ⊢
              exact below_step h hb
            have GG := Lib.hid gg; have KK := Lib.hid kk; have SP := Lib.hid sp; have HP7 := Lib.hid hP7
            clear gg kk sp hP7 g2 cc2 f0' e0 e1 e2 e3 e4 e5
            go_upto_region 21 with (fail)
            refine wp_region_held_head (S := (fun W => (Hid (P7 W) ∧ W.cell? ⟨gl, 0, none⟩ = some (.slice CVA K cvc) ∧ W.cell? ⟨gc, 0, none⟩ = some (.slice (some ⟨gE, 0, none⟩) NC c1) ∧ W.cell? ⟨fb, fo + k, none⟩ = some (.int .i64 (ii : Int)) ∧ W.cell? ⟨gE, ii * 6, none⟩ = some (.int .i64 pub) ∧ W.cell? ⟨gE, ii * 6 + 1, none⟩ = some (.int .i64 sf) ∧ W.cell? ⟨gE, ii * 6 + 2, none⟩ = some (.int .i64 se) ∧ W.cell? ⟨gE, ii * 6 + 3, none⟩ = some (.slice NA nl nc_) ∧ W.cell? ⟨gE, ii * 6 + 4, none⟩ = some (.slice BA bl bc_) ∧ W.cell? ⟨gE, ii * 6 + 5, none⟩ = some (.int .i64 gives)))) 11 (by kernel_rfl) (by kernel_rfl) ?_ (fun hHeld => ?_)
            · exact KK.out _ GG.out
            simp only [List.take_succ_cons, List.take_zero, List.drop_succ_cons, List.drop_zero]
            refine wpAnyH_take (i := 0) (oi := ⟨_, _, _, _, _, _⟩) (v := ?_) rfl (by kernel_rfl) (by kernel_rfl) (by kernel_rfl) (fun _ _ _ h => h) (Or.inl ⟨by rfl, ?_⟩) (by assumption) ?_
            rotate_left 1
            focus (intro w hSw; (try dsimp only at hSw); go_simp; (try with_reducible rfl))
            (try simp only [Act.put, List.setIfInBounds_toArray, List.set_cons_zero, List.set_cons_succ])
            refine wpAnyH_take (i := 1) (oi := ⟨_, _, _, _, _, _⟩) (v := ?_) rfl (by kernel_rfl) (by kernel_rfl) (by kernel_rfl) (fun _ _ _ h => h) (Or.inl ⟨by rfl, ?_⟩) (by assumption) ?_
            rotate_left 1
            focus (intro w hSw; (try dsimp only at hSw); go_simp; (try with_reducible rfl))
            (try simp only [Act.put, List.setIfInBounds_toArray, List.set_cons_zero, List.set_cons_succ])
            refine wpAnyH_take (i := 2) (oi := ⟨_, _, _, _, _, _⟩) (v := ?_) rfl (by kernel_rfl) (by kernel_rfl) (by kernel_rfl) (fun _ _ _ h => h) (Or.inl ⟨by rfl, ?_⟩) (by assumption) ?_
            rotate_left 1
            focus (intro w hSw; (try dsimp only at hSw); go_simp; (try with_reducible rfl))
            (try simp only [Act.put, List.setIfInBounds_toArray, List.set_cons_zero, List.set_cons_succ])
            refine wpAnyH_take (i := 3) (oi := ⟨_, _, _, _, _, _⟩) (v := ?_) rfl (by kernel_rfl) (by kernel_rfl) (by kernel_rfl) (fun _ _ _ h => h) (Or.inl ⟨by rfl, ?_⟩) (by assumption) ?_
            rotate_left 1
            focus (intro w hSw; (try dsimp only at hSw); go_simp; (try with_reducible rfl))
            (try simp only [Act.put, List.setIfInBounds_toArray, List.set_cons_zero, List.set_cons_succ])
            refine wpAnyH_take (i := 4) (oi := ⟨_, _, _, _, _, _⟩) (v := ?_) rfl (by kernel_rfl) (by kernel_rfl) (by kernel_rfl) (fun _ _ _ h => h) (Or.inl ⟨by rfl, ?_⟩) (by assumption) ?_
            rotate_left 1
            focus (intro w hSw; (try dsimp only at hSw); go_simp; (try with_reducible rfl))
            (try simp only [Act.put, List.setIfInBounds_toArray, List.set_cons_zero, List.set_cons_succ])
            refine wpAnyH_take (i := 5) (oi := ⟨_, _, _, _, _, _⟩) (v := ?_) rfl (by kernel_rfl) (by kernel_rfl) (by kernel_rfl) (fun _ _ _ h => h) (Or.inl ⟨by rfl, ?_⟩) (by assumption) ?_
            rotate_left 1
            focus (intro w hSw; (try dsimp only at hSw); go_simp; (try with_reducible rfl))
            (try simp only [Act.put, List.setIfInBounds_toArray, List.set_cons_zero, List.set_cons_succ])
            refine wpAnyH_take (i := 6) (oi := ⟨_, _, _, _, _, _⟩) (v := ?_) rfl (by kernel_rfl) (by kernel_rfl) (by kernel_rfl) (fun _ _ _ h => h) (Or.inl ⟨by rfl, ?_⟩) (by assumption) ?_
            rotate_left 1
            focus (intro w hSw; (try dsimp only at hSw); go_simp; (try with_reducible rfl))
            (try simp only [Act.put, List.setIfInBounds_toArray, List.set_cons_zero, List.set_cons_succ])
            refine wpAnyH_take (i := 7) (oi := ⟨_, _, _, _, _, _⟩) (v := ?_) rfl (by kernel_rfl) (by kernel_rfl) (by kernel_rfl) (fun _ _ _ h => h) (Or.inl ⟨by rfl, ?_⟩) (by assumption) ?_
            rotate_left 1
            focus (intro w hSw; (try dsimp only at hSw); go_simp; (try with_reducible rfl))
            (try simp only [Act.put, List.setIfInBounds_toArray, List.set_cons_zero, List.set_cons_succ])
            refine wpAnyH_take (i := 8) (oi := ⟨_, _, _, _, _, _⟩) (v := ?_) rfl (by kernel_rfl) (by kernel_rfl) (by kernel_rfl) (fun _ _ _ h => h) (Or.inl ⟨by rfl, ?_⟩) (by assumption) ?_
            rotate_left 1
            focus (intro w hSw; (try dsimp only at hSw); go_simp; (try with_reducible rfl))
            (try simp only [Act.put, List.setIfInBounds_toArray, List.set_cons_zero, List.set_cons_succ])
            refine wpAnyH_take (i := 9) (oi := ⟨_, _, _, _, _, _⟩) (v := ?_) rfl (by kernel_rfl) (by kernel_rfl) (by kernel_rfl) (fun _ _ _ h => h) (Or.inl ⟨by rfl, ?_⟩) (by assumption) ?_
            rotate_left 1
            focus (intro w hSw; (try dsimp only at hSw); go_simp; (try with_reducible rfl))
            (try simp only [Act.put, List.setIfInBounds_toArray, List.set_cons_zero, List.set_cons_succ])
            refine wpAnyH_ready (rs := [10]) (by kernel_rfl) (by simp) ?_
            refine AllReadyH.cons (o := ⟨_, _, _, _, _, _⟩) rfl (fun K hK => ?_) ?_
            · go_simp
              refine hK.out _ _ ?_ (fun hHeld => ?_)
              · exact KK.out _ (SP.out _ _ GG.out (below_alloc _ _))
              clear hK K
              (try simp only [Act.put, List.setIfInBounds_toArray, List.set_cons_zero, List.set_cons_succ])
              refine wpAnyH_done (by kernel_rfl) ?_ _
              simp only [Exit.then]
              obtain ⟨W9, hW9⟩ : ∃ W9, W9 = wc.drew.alloc (.cells (clsL ((⟨pub, sf, se, needs, bars, gives⟩, .slice NA nl nc_, .slice BA bl bc_) : CV)).toArray 51) := ⟨_, rfl⟩
              change wpList _ _ _ _ _ (wc.drew.alloc (.cells (clsL ((⟨pub, sf, se, needs, bars, gives⟩, .slice NA nl nc_, .slice BA bl bc_) : CV)).toArray 51))
              rw [← hW9]
              have q7 : P7 W9 := by rw [hW9]; exact SP.out _ _ GG.out (below_alloc _ _)
              have z1 := (KK.out _ q7).2.1
              rw [HP7.out] at q7
              have m7 := MM.out.step q7
              have hnew := new_at wc.drew 51 (clsL ((⟨pub, sf, se, needs, bars, gives⟩, .slice NA nl nc_, .slice BA bl bc_) : CV))
              rw [← hW9] at hnew
              have hp := IRN.out _ q7
              have HPP := Lib.hid hp
              clear hp
              have hbase := m7.b.size
              have hown := m7.o.c
              rw [HKK.out] at hown
              have M7 := Lib.hid m7; have HNEW := Lib.hid hnew; have HOWN := Lib.hid hown
              clear hW9 q7 m7 hnew hown
              go_wp2_with (at_builtin; refine wpList_append_own _ rfl _ _ 30 rfl B5.heap.size 51 ic (.agg #[.int .i64 0, .int .i64 0, .int .i64 0, .slice none 0 0, .slice none 0 0, .int .i64 0]) 6 80 Try.underlying30 INF.out.1.1 INF.out.1.2.1 INF.out.1.2.2.1 INF.out.1.2.2.2 rfl (by decide) _ _ _ rfl HOWN.out ⟨wc.heap.size, 0, none⟩ 1 1 (clsL ((⟨pub, sf, se, needs, bars, gives⟩, .slice NA nl nc_, .slice BA bl bc_) : CV)) rfl rfl HNEW.out (clsL_one _ rfl rfl) (by unfold maxLen; omega) (by omega) hbase ?_; intro v' w8 own8 hg8 _; obtain ⟨g', cap', rfl⟩ := ownsRow_succ own8; rw [← HKK.out] at own8; have q8 := Bx.addC (p := ((⟨pub, sf, se, needs, bars, gives⟩, .slice NA nl nc_, .slice BA bl bc_) : CV)) M7.out HPP.out (by rw [← HKK.out] at hg8; exact hg8) own8; rw [HKK.out] at q8; obtain ⟨hc8, m8⟩ := q8; obtain ⟨_, _, _, u3, u4, u5⟩ := hc8.three; have N8 := Lib.hid m8; clear own8 hg8 m8 hc8)
              go_roundg (CN - (k + 1))
              case measure => omega
              case rel => exact ⟨k + 1, _, _, by go_num, by omega, N8.out, Lib.hid (by rw [HNX.out, List.map_append, HCT.out]; rfl)⟩
            exact AllReadyH.nil
        · obtain rfl : k = CN := by omega
          obtain ⟨CVA, cvc, rfl⟩ := own_len hM.o.c
          have hcf : cs1.map (·.1) = Cl.map (clsOf b) := by rw [HCT.out, List.take_of_length_le (by rw [← HCN.out]; exact Nat.le_refl _)]
          obtain ⟨N2, hN2⟩ : ∃ N, N = cs1.length := ⟨_, rfl⟩
          have MM := Lib.hid hM; have HCF := Lib.hid hcf; have HN2 := Lib.hid hN2
          rw [← hN2] at MM
          clear hM hcf hN2 HCT hlt hk
          go_wp2
          go_loopg [16, 17] NR (fun kx s16 s17 wr => ∃ (k : Nat) (rv : Value) (rs1 : List Rpl), s16 = .int .i64 (k : Int) ∧ k + kx = NR ∧ Bx B5 gl (.slice CVA N2 cvc) rv (.slice FVA N1 fvc) cs1 rs1 fs1 wr ∧ Hid (rs1 = (b.rpl.take k).filterMap (lessR Cl)))
          case atStart => exact ⟨0, _, [], rfl, by omega, MM.out, Lib.hid (by simp)⟩
          case round =>
            clear MM
            obtain ⟨k, rv, rs1, rfl, hk, hM, HRT⟩ := hrel
            have xr := CR.out.step hM.b
            have xe1 := xr.at (i := 1) rfl
            by_cases hlt : k < NR
            · obtain ⟨y, hy⟩ : ∃ p, b.rpl[k]? = some p := at_lt (by rw [ENR.out]; exact hlt)
              have hec := (OW.out.step hM.b).r
              obtain ⟨gE, hG1, gEl, hcell⟩ := own_elem rplL_len (by rw [ENR.out]; rw [ENR.out] at hec; exact hec) hy
              subst hG1
              have e0 := hcell 0 _ rfl
              have e1 := hcell 1 _ rfl
              have e2 := hcell 2 _ rfl
              rw [Nat.add_zero] at e0
              obtain ⟨RVA, rvc, rfl⟩ := own_len hM.o.r
              obtain ⟨K, hK⟩ : ∃ K, K = rs1.length := ⟨_, rfl⟩
              have HKK := Lib.hid hK.symm
              have hfl : rs1.length ≤ 3 := by
                rw [HRT.out]
                refine Nat.le_trans (List.length_filterMap_le ..) ?_
                rw [List.length_take]
                omega
              have g2 := hM.r.at (i := 1) rfl
              rw [← hK] at hfl g2
              obtain ⟨rc, rp, rf⟩ := y
              try dsimp only at e0 e1 e2
              obtain ⟨p, hp⟩ : ∃ p, p = posI Cl rc := ⟨_, rfl⟩
              have ix := index_any Cl rc _ wr (IC.out.deep hM.b)
              rw [← hp] at ix
              have hnx : (b.rpl.take (k + 1)).filterMap (lessR Cl) = (b.rpl.take k).filterMap (lessR Cl) ++ (if 0 ≤ p then [⟨p, rp, rf⟩] else []) := by
                rw [List.take_add_one, hy, List.filterMap_append]
                congr 1
                show List.filterMap (lessR Cl) [⟨rc, rp, rf⟩] = _
                rw [List.filterMap_cons]
                unfold lessR
                dsimp only
                rw [← hp]
                by_cases h0 : 0 ≤ p
                · rw [if_pos h0, if_pos h0]; rfl
                · rw [if_neg h0, if_neg h0]; rfl
              have kFi : (k : Int) < (NR : Int) := by omega
              have HNX := Lib.hid hnx; have MM := Lib.hid hM; have IX := Lib.hid ix
              clear hnx hM hy hec hcell hK xr ix hp
              go_upto_region 26 with (go_at_call 19; (with_reducible refine IX.out.mono ?_); rintro e_ wx ⟨rfl, hwx⟩; have hwx := hwx.symm; subst hwx)
              by_cases h0 : 0 ≤ p
              · have hnx := HNX.out
                rw [if_pos h0] at hnx
                have HNX := Lib.hid hnx
                clear hnx
                have cc2 := xe1
                go_upto_region 27 with (fail)
                clear e0 xe1
                obtain ⟨P7, hP7⟩ : ∃ P : World → Prop, P = fun W => Below wr.heap.size wr W := ⟨_, rfl⟩
                have gg : P7 wr.drew := by rw [hP7]; exact (Below.refl _ _).drew
                have kk : ∀ W, P7 W → (Hid (P7 W) ∧ W.cell? ⟨gl, 1, none⟩ = some (.slice RVA K rvc) ∧ W.cell? ⟨gc, 1, none⟩ = some (.slice (some ⟨gE, 0, none⟩) NR c2) ∧ W.cell? ⟨gE, k * 3 + 1, none⟩ = some (.int .i64 rp) ∧ W.cell? ⟨gE, k * 3 + 2, none⟩ = some (.int .i64 rf)) := fun W h => by
                  have h' := h
                  rw [hP7] at h'
                  exact ⟨Lib.hid h, cell_of h' g2 (World.block_lt_of_cell? _ _ g2), cell_of h' cc2 (World.block_lt_of_cell? _ _ cc2), cell_of h' e1 (World.block_lt_of_cell? _ _ e1), cell_of h' e2 (World.block_lt_of_cell? _ _ e2)⟩
                have sp : ∀ W X, P7 W → Below W.heap.size W X → P7 X := fun W X h hb => by
                  rw [hP7] at h ⊢
                  exact below_step h hb
                have GG := Lib.hid gg; have KK := Lib.hid kk; have SP := Lib.hid sp; have HP7 := Lib.hid hP7
                clear gg kk sp hP7 g2 cc2 e1 e2
                go_upto_region 27 with (fail)
                refine wp_region_held_head (S := (fun W => (Hid (P7 W) ∧ W.cell? ⟨gl, 1, none⟩ = some (.slice RVA K rvc) ∧ W.cell? ⟨gc, 1, none⟩ = some (.slice (some ⟨gE, 0, none⟩) NR c2) ∧ W.cell? ⟨gE, k * 3 + 1, none⟩ = some (.int .i64 rp) ∧ W.cell? ⟨gE, k * 3 + 2, none⟩ = some (.int .i64 rf)))) 17 (by kernel_rfl) (by kernel_rfl) ?_ (fun hHeld => ?_)
                · exact KK.out _ GG.out
                simp only [List.take_succ_cons, List.take_zero, List.drop_succ_cons, List.drop_zero]
                refine wpAnyH_take (i := 0) (oi := ⟨_, _, _, _, _, _⟩) (v := ?_) rfl (by kernel_rfl) (by kernel_rfl) (by kernel_rfl) (fun _ _ _ h => h) (Or.inl ⟨by rfl, ?_⟩) (by assumption) ?_
                rotate_left 1
                focus (intro w hSw; (try dsimp only at hSw); go_simp; (try with_reducible rfl))
                (try simp only [Act.put, List.setIfInBounds_toArray, List.set_cons_zero, List.set_cons_succ])
                refine wpAnyH_take (i := 1) (oi := ⟨_, _, _, _, _, _⟩) (v := ?_) rfl (by kernel_rfl) (by kernel_rfl) (by kernel_rfl) (fun _ _ _ h => h) (Or.inl ⟨by rfl, ?_⟩) (by assumption) ?_
                rotate_left 1
                focus (intro w hSw; (try dsimp only at hSw); go_simp; (try with_reducible rfl))
                (try simp only [Act.put, List.setIfInBounds_toArray, List.set_cons_zero, List.set_cons_succ])
                refine wpAnyH_take (i := 2) (oi := ⟨_, _, _, _, _, _⟩) (v := ?_) rfl (by kernel_rfl) (by kernel_rfl) (by kernel_rfl) (fun _ _ _ h => h) (Or.inl ⟨by rfl, ?_⟩) (by assumption) ?_
                rotate_left 1
                focus (intro w hSw; (try dsimp only at hSw); go_simp; (try with_reducible rfl))
                (try simp only [Act.put, List.setIfInBounds_toArray, List.set_cons_zero, List.set_cons_succ])
                refine wpAnyH_take (i := 3) (oi := ⟨_, _, _, _, _, _⟩) (v := ?_) rfl (by kernel_rfl) (by kernel_rfl) (by kernel_rfl) (fun _ _ _ h => h) (Or.inl ⟨by rfl, ?_⟩) (by assumption) ?_
                rotate_left 1
                focus (intro w hSw; (try dsimp only at hSw); go_simp; (try with_reducible rfl))
                (try simp only [Act.put, List.setIfInBounds_toArray, List.set_cons_zero, List.set_cons_succ])
                refine wpAnyH_take (i := 4) (oi := ⟨_, _, _, _, _, _⟩) (v := ?_) rfl (by kernel_rfl) (by kernel_rfl) (by kernel_rfl) (fun _ _ _ h => h) (Or.inl ⟨by rfl, ?_⟩) (by assumption) ?_
                rotate_left 1
                focus (intro w hSw; (try dsimp only at hSw); go_simp; (try with_reducible rfl))
                (try simp only [Act.put, List.setIfInBounds_toArray, List.set_cons_zero, List.set_cons_succ])
                refine wpAnyH_take (i := 5) (oi := ⟨_, _, _, _, _, _⟩) (v := ?_) rfl (by kernel_rfl) (by kernel_rfl) (by kernel_rfl) (fun _ _ _ h => h) (Or.inl ⟨by rfl, ?_⟩) (by assumption) ?_
                rotate_left 1
                focus (intro w hSw; (try dsimp only at hSw); go_simp; (try with_reducible rfl))
                (try simp only [Act.put, List.setIfInBounds_toArray, List.set_cons_zero, List.set_cons_succ])
                refine wpAnyH_take (i := 6) (oi := ⟨_, _, _, _, _, _⟩) (v := ?_) rfl (by kernel_rfl) (by kernel_rfl) (by kernel_rfl) (fun _ _ _ h => h) (Or.inl ⟨by rfl, ?_⟩) (by assumption) ?_
                rotate_left 1
                focus (intro w hSw; (try dsimp only at hSw); go_simp; (try with_reducible rfl))
                (try simp only [Act.put, List.setIfInBounds_toArray, List.set_cons_zero, List.set_cons_succ])
                refine wpAnyH_take (i := 7) (oi := ⟨_, _, _, _, _, _⟩) (v := ?_) rfl (by kernel_rfl) (by kernel_rfl) (by kernel_rfl) (fun _ _ _ h => h) (Or.inl ⟨by rfl, ?_⟩) (by assumption) ?_
                rotate_left 1
                focus (intro w hSw; (try dsimp only at hSw); go_simp; (try with_reducible rfl))
                (try simp only [Act.put, List.setIfInBounds_toArray, List.set_cons_zero, List.set_cons_succ])
                refine wpAnyH_take (i := 8) (oi := ⟨_, _, _, _, _, _⟩) (v := ?_) rfl (by kernel_rfl) (by kernel_rfl) (by kernel_rfl) (fun _ _ _ h => h) (Or.inl ⟨by rfl, ?_⟩) (by assumption) ?_
                rotate_left 1
                focus (intro w hSw; (try dsimp only at hSw); go_simp; (try with_reducible rfl))
                (try simp only [Act.put, List.setIfInBounds_toArray, List.set_cons_zero, List.set_cons_succ])
                refine wpAnyH_take (i := 9) (oi := ⟨_, _, _, _, _, _⟩) (v := ?_) rfl (by kernel_rfl) (by kernel_rfl) (by kernel_rfl) (fun _ _ _ h => h) (Or.inl ⟨by rfl, ?_⟩) (by assumption) ?_
                rotate_left 1
                focus (intro w hSw; (try dsimp only at hSw); go_simp; (try with_reducible rfl))
                (try simp only [Act.put, List.setIfInBounds_toArray, List.set_cons_zero, List.set_cons_succ])
                refine wpAnyH_take (i := 10) (oi := ⟨_, _, _, _, _, _⟩) (v := ?_) rfl (by kernel_rfl) (by kernel_rfl) (by kernel_rfl) (fun _ _ _ h => h) (Or.inl ⟨by rfl, ?_⟩) (by assumption) ?_
                rotate_left 1
                focus (intro w hSw; (try dsimp only at hSw); go_simp; (try with_reducible rfl))
                (try simp only [Act.put, List.setIfInBounds_toArray, List.set_cons_zero, List.set_cons_succ])
                refine wpAnyH_take (i := 11) (oi := ⟨_, _, _, _, _, _⟩) (v := ?_) rfl (by kernel_rfl) (by kernel_rfl) (by kernel_rfl) (fun _ _ _ h => h) (Or.inl ⟨by rfl, ?_⟩) (by assumption) ?_
                rotate_left 1
                focus (intro w hSw; (try dsimp only at hSw); go_simp; (try with_reducible rfl))
                (try simp only [Act.put, List.setIfInBounds_toArray, List.set_cons_zero, List.set_cons_succ])
                refine wpAnyH_take (i := 12) (oi := ⟨_, _, _, _, _, _⟩) (v := ?_) rfl (by kernel_rfl) (by kernel_rfl) (by kernel_rfl) (fun _ _ _ h => h) (Or.inl ⟨by rfl, ?_⟩) (by assumption) ?_
                rotate_left 1
                focus (intro w hSw; (try dsimp only at hSw); go_simp; (try with_reducible rfl))
                (try simp only [Act.put, List.setIfInBounds_toArray, List.set_cons_zero, List.set_cons_succ])
                refine wpAnyH_take (i := 13) (oi := ⟨_, _, _, _, _, _⟩) (v := ?_) rfl (by kernel_rfl) (by kernel_rfl) (by kernel_rfl) (fun _ _ _ h => h) (Or.inl ⟨by rfl, ?_⟩) (by assumption) ?_
                rotate_left 1
                focus (intro w hSw; (try dsimp only at hSw); go_simp; (try with_reducible rfl))
                (try simp only [Act.put, List.setIfInBounds_toArray, List.set_cons_zero, List.set_cons_succ])
                refine wpAnyH_take (i := 14) (oi := ⟨_, _, _, _, _, _⟩) (v := ?_) rfl (by kernel_rfl) (by kernel_rfl) (by kernel_rfl) (fun _ _ _ h => h) (Or.inl ⟨by rfl, ?_⟩) (by assumption) ?_
                rotate_left 1
                focus (intro w hSw; (try dsimp only at hSw); go_simp; (try with_reducible rfl))
                (try simp only [Act.put, List.setIfInBounds_toArray, List.set_cons_zero, List.set_cons_succ])
                refine wpAnyH_take (i := 15) (oi := ⟨_, _, _, _, _, _⟩) (v := ?_) rfl (by kernel_rfl) (by kernel_rfl) (by kernel_rfl) (fun _ _ _ h => h) (Or.inl ⟨by rfl, ?_⟩) (by assumption) ?_
                rotate_left 1
                focus (intro w hSw; (try dsimp only at hSw); go_simp; (try with_reducible rfl))
                (try simp only [Act.put, List.setIfInBounds_toArray, List.set_cons_zero, List.set_cons_succ])
                refine wpAnyH_ready (rs := [16]) (by kernel_rfl) (by simp) ?_
                refine AllReadyH.cons (o := ⟨_, _, _, _, _, _⟩) rfl (fun K hK => ?_) ?_
                · go_simp
                  refine hK.out _ _ ?_ (fun hHeld => ?_)
                  · exact KK.out _ (SP.out _ _ GG.out (below_alloc _ _))
                  clear hK K
                  (try simp only [Act.put, List.setIfInBounds_toArray, List.set_cons_zero, List.set_cons_succ])
                  refine wpAnyH_done (by kernel_rfl) ?_ _
                  simp only [Exit.then]
                  obtain ⟨W9, hW9⟩ : ∃ W9, W9 = wr.drew.alloc (.cells (rplL (⟨p, rp, rf⟩ : Rpl)).toArray 55) := ⟨_, rfl⟩
                  change wpList _ _ _ _ _ (wr.drew.alloc (.cells (rplL (⟨p, rp, rf⟩ : Rpl)).toArray 55))
                  rw [← hW9]
                  have q7 : P7 W9 := by rw [hW9]; exact SP.out _ _ GG.out (below_alloc _ _)
                  have z1 := (KK.out _ q7).2.1
                  rw [HP7.out] at q7
                  have m7 := MM.out.step q7
                  have hnew := new_at wr.drew 55 (rplL (⟨p, rp, rf⟩ : Rpl))
                  rw [← hW9] at hnew
                  have hbase := m7.b.size
                  have hown := m7.o.r
                  rw [HKK.out] at hown
                  have M7 := Lib.hid m7; have HNEW := Lib.hid hnew; have HOWN := Lib.hid hown
                  clear hW9 q7 m7 hnew hown
                  go_wp2_with (at_builtin; refine wpList_append_own _ rfl _ _ 31 rfl B5.heap.size 55 ir (.agg #[.int .i64 0, .int .i64 0, .int .i64 0]) 3 24 Try.underlying31 INF.out.2.1.1 INF.out.2.1.2.1 INF.out.2.1.2.2.1 INF.out.2.1.2.2.2 rfl (by decide) _ _ _ rfl HOWN.out ⟨wr.heap.size, 0, none⟩ 1 1 (rplL (⟨p, rp, rf⟩ : Rpl)) rfl rfl HNEW.out (rplL_one _) (by unfold maxLen; omega) (by omega) hbase ?_; intro v' w8 own8 hg8 _; obtain ⟨g', cap', rfl⟩ := ownsRow_succ own8; rw [← HKK.out] at own8; have q8 := Bx.addR (p := (⟨p, rp, rf⟩ : Rpl)) M7.out (by rw [← HKK.out] at hg8; exact hg8) own8; rw [HKK.out] at q8; obtain ⟨hc8, m8⟩ := q8; obtain ⟨_, _, _, u3, u4, u5⟩ := hc8.three; have N8 := Lib.hid m8; clear own8 hg8 m8 hc8)
                  go_roundg (NR - (k + 1))
                  case measure => omega
                  case rel => exact ⟨k + 1, _, _, by go_num, by omega, N8.out, Lib.hid (by rw [HNX.out, HRT.out])⟩
                exact AllReadyH.nil
              · have hnx := HNX.out
                rw [if_neg h0, List.append_nil] at hnx
                have HNX := Lib.hid hnx
                clear hnx
                go_wp2
                go_roundg (NR - (k + 1))
                case measure => omega
                case rel => exact ⟨k + 1, _, _, by go_num, by omega, MM.out, Lib.hid (by rw [HNX.out, HRT.out])⟩
            · obtain rfl : k = NR := by omega
              obtain ⟨RVA, rvc, rfl⟩ := own_len hM.o.r
              have hrf : rs1 = b.rpl.filterMap (lessR Cl) := by rw [HRT.out, List.take_of_length_le (by rw [ENR.out]; exact Nat.le_refl _)]
              obtain ⟨N3, hN3⟩ : ∃ N, N = rs1.length := ⟨_, rfl⟩
              go_upto_region 28 with (fail)
              have hbe : lessB b Cl F' = ⟨cs1.map (·.1), rs1, fs1⟩ := by rw [HCF.out, hrf, HFF.out]; rfl
              have hbk := hM.bk hbe HLV.out
              have wr_ := hM.r
              rw [← hN3] at hbk wr_
              have hb := hM.b
              have WR := Lib.hid wr_; have BP := Lib.hid hbk
              clear X Y BK OW NUF NUC
              replace QR := Lib.hid (QR.out.step hb); replace PF := Lib.hid (PF.out.step hb); replace IF := Lib.hid (IF.out.deep hb); replace IC := Lib.hid (IC.out.deep hb); replace BW := Lib.hid (below_step BW.out hb)
              clear hM hrf hbe hN3 hbk wr_ hb xr xe1 hk hlt HRT CR
              obtain ⟨W8, hW8⟩ : ∃ z, z = wr := ⟨_, rfl⟩
              rw [← hW8] at QR PF BW IF IC WR BP ⊢
              clear hW8
              go_wp2
              go_loopg [18, 19, 20] n (fun kx s18 s19 s20 wr => ∃ (k : Nat) (ms : List Fd), s19 = .int .i64 (k : Int) ∧ k + kx = n ∧ Hid (wr.ownsRow W8.heap.size 63 4 s18 k (flG fdL ms)) ∧ Hid (ms = (l.take k).map (mvF Cl F')) ∧ Below W8.heap.size W8 wr)
              case atStart => exact ⟨0, [], rfl, by omega, Lib.hid (World.ownsRow_nil _ _ _ _), Lib.hid (by simp), Below.refl _ _⟩
              case round =>
                obtain ⟨k, ms, rfl, hk, hO, HMT, hb⟩ := hrel
                obtain ⟨VA, vm, vc, rfl⟩ := own_form hO.out
                by_cases hlt : k < n
                · obtain ⟨y, hy⟩ : ∃ p, l[k]? = some p := at_lt (by rw [PF.out.len]; exact hlt)
                  obtain ⟨gb, go_, hA, hgb, e0, e1, e2, e3⟩ := (PF.out.fds.deep hb) k y hy
                  obtain ⟨rfl, rfl⟩ : g = gb ∧ 0 = go_ := by simpa using hA
                  rw [Nat.zero_add] at e0 e1 e2 e3
                  obtain ⟨f1, f2, f3, f4⟩ := y
                  dsimp only at e0 e1 e2 e3
                  obtain ⟨p3, hp3⟩ : ∃ p, p = posI F' f3 := ⟨_, rfl⟩
                  obtain ⟨p4, hp4⟩ : ∃ p, p = posI Cl f4 := ⟨_, rfl⟩
                  have hnx : (l.take (k + 1)).map (mvF Cl F') = (l.take k).map (mvF Cl F') ++ [(f1, f2, p3, p4)] := by rw [List.take_add_one, hy, List.map_append, hp3, hp4]; rfl
                  have ix3 := fun (W : World) (h : Below wr.heap.size wr W) => index_any F' f3 _ W ((IF.out.deep hb).deep h)
                  have ix4 := fun (W : World) (h : Below wr.heap.size wr W) => index_any Cl f4 _ W ((IC.out.deep hb).deep h)
                  rw [← hp3] at ix3
                  rw [← hp4] at ix4
                  have kni : (k : Int) < (n : Int) := by omega
                  have HNX := Lib.hid hnx; have IX3 := Lib.hid ix3; have IX4 := Lib.hid ix4; have HB := Lib.hid hb
                  clear hnx ix3 ix4 hp3 hp4 hy hA hgb hb
                  go_upto_region 33 with (fail)
                  obtain ⟨W5, hW5⟩ : ∃ W5, W5 = wr.alloc (.cells #[.int .i64 f1, .bool f2, .int .i64 f3, .int .i64 f4] 63) := ⟨_, rfl⟩
                  rw [← hW5]
                  have b5 : Below wr.heap.size wr W5 := by rw [hW5]; exact below_alloc _ _
                  have r5 : Row W5 wr.heap.size 63 #[.int .i64 f1, .bool f2, .int .i64 f3, .int .i64 f4] := by rw [hW5]; exact Row.made _ _ _
                  clear hW5 e0 e1 e2 e3
                  have z2 := r5.at (i := 2) rfl; have y2 := r5.free 2
                  have B5_ := Lib.hid b5; have R5 := Lib.hid r5
                  clear b5 r5
                  go_upto_region 34 with (go_at_call 19; (with_reducible refine (IX3.out _ B5_.out).mono ?_); rintro e_ wx ⟨rfl, hwx⟩; have hwx := hwx.symm; subst hwx)
                  obtain ⟨W6, hW6⟩ : ∃ W, W = W5.setCell ⟨wr.heap.size, 2, none⟩ (.int .i64 p3) := ⟨_, rfl⟩
                  rw [← hW6]
                  have b6 : Below wr.heap.size wr W6 := by rw [hW6]; exact B5_.out.setCell (p := ⟨wr.heap.size, 2, none⟩) (Nat.le_refl _) _
                  have r6 : Row W6 wr.heap.size 63 #[.int .i64 f1, .bool f2, .int .i64 p3, .int .i64 f4] := by rw [hW6]; exact R5.out.stored 2 _
                  clear hW6 z2 y2
                  have z3 := r6.at (i := 3) rfl; have y3 := r6.free 3
                  have B6_ := Lib.hid b6; have R6 := Lib.hid r6
                  clear b6 r6 B5_ R5
                  go_upto_region 35 with (go_at_call 19; (with_reducible refine (IX4.out _ B6_.out).mono ?_); rintro e_ wx ⟨rfl, hwx⟩; have hwx := hwx.symm; subst hwx)
                  obtain ⟨W7, hW7⟩ : ∃ W, W = W6.setCell ⟨wr.heap.size, 3, none⟩ (.int .i64 p4) := ⟨_, rfl⟩
                  rw [← hW7]
                  have b7 : Below wr.heap.size wr W7 := by rw [hW7]; exact B6_.out.setCell (p := ⟨wr.heap.size, 3, none⟩) (Nat.le_refl _) _
                  have r7 : Row W7 wr.heap.size 63 #[.int .i64 f1, .bool f2, .int .i64 p3, .int .i64 p4] := by rw [hW7]; exact R6.out.stored 3 _
                  clear hW7 z3 y3
                  obtain ⟨q0, q1, q2, q3⟩ := box4 r7
                  have B7_ := Lib.hid b7
                  clear b7 r7 B6_ R6
                  have o7 := own_over hO.out B7_.out
                  have O7 := Lib.hid o7
                  have HB7 := Lib.hid (below_step HB.out B7_.out)
                  clear o7
                  go_wp2_with (at_builtin; refine wpList_append_G (enc := fdL) fdL_len Try.underlying28 fd_info rfl (by decide) (by decide) rfl _ _ (by rfl) W8.heap.size _ k ms (by rfl) (O7.out.alloc _) (some ⟨W7.heap.size, 0, none⟩) 1 1 [(f1, f2, p3, p4)] (by rfl) rfl (fun y _ => fd_one y) (fds_cells (fds_lit W7 [(f1, f2, p3, p4)] (show (1 : Nat) ≤ maxLen by decide))) (by omega) (Below.size (keep_alloc HB7.out _)) ?_; intro v2 w2 o2 g2; have B2 := Lib.hid (keep_grown (keep_alloc HB7.out _) g2 (O7.out.alloc _)); have O3 := Lib.hid o2; clear g2 o2)
                  go_roundg (n - (k + 1))
                  case measure => omega
                  case rel => exact ⟨k + 1, _, by go_num, by omega, O3, Lib.hid (by rw [HNX.out, HMT.out]), B2.out⟩
                · obtain rfl : k = n := by omega
                  have hmf : ms = l.map (mvF Cl F') := by rw [HMT.out, List.take_of_length_le (by rw [PF.out.len]; exact Nat.le_refl _)]
                  have hml : ms.length = k := by rw [hmf, List.length_map]; exact PF.out.len
                  have vml : vm = k := by rcases hO.out.2 with ⟨h, h0⟩ | ⟨_, _, _, h, _⟩ <;> cases h <;> first | rfl | omega
                  subst vml
                  have hfd : FdsC wr VA ms := own_fds hml.symm hO.out
                  have hcap : vm ≤ vc := own_cap hO.out
                  go_upto_region 36 with (fail)
                  have HNN := Lib.hid n20
                  have hpr : provesB (lessB b Cl F') ⟨th, sy, tm, kn⟩ ms sy = true := by rw [hmf]; exact HLPR.out
                  have hck : checkB (lessB b Cl F') ⟨th, sy, tm, kn⟩ so ms = true := by have := yes_check (b := lessB b Cl F') (q := ⟨th, sy, tm, kn⟩) HLV.out AQ.out hpr; dsimp only at this; rwa [HLSO.out] at this
                  have hd := dec_val (lessB b Cl F') ⟨th, sy, tm, kn⟩ so HLV.out AQ.out HLSO.out _ _ _ _ (BP.out.deep hb)
                  have ck := fun (W : World) (h : Below wr.heap.size wr W) => check_at (lessB b Cl F') ⟨th, sy, tm, kn⟩ so true ms VA vm vc HLV.out hck hml hcap (by omega) _ _ _ W ((BP.out.deep hb).deep h) (hfd.deep h)
                  unfold qnC at hd ck
                  dsimp only at hd ck
                  have BW8 := Lib.hid (below_step BW.out hb)
                  replace QR := Lib.hid (QR.out.step hb); replace WR := Lib.hid (WR.out.step hb)
                  have HD := Lib.hid hd; have CK := Lib.hid ck
                  clear hd ck hck hpr hfd hmf hml hb
                  obtain ⟨k0, k1, k2, _, _, _⟩ := WR.out.three
                  obtain ⟨q0, q1, q2, q3⟩ := box4 QR.out
                  go_upto_region 37 with (go_at_call 12; (with_reducible refine HD.out.mono ?_); rintro e w12 ⟨E1, m1, c1', rfl, b12⟩; replace QR := Lib.hid (QR.out.step b12); replace WR := Lib.hid (WR.out.step b12); have B12 := Lib.hid b12; clear b12)
                  clear k0 k1 k2 q0 q1 q2 q3
                  obtain ⟨k0, k1, k2, _, _, _⟩ := WR.out.three
                  obtain ⟨q0, q1, q2, q3⟩ := box4 QR.out
                  have hss : (so == so) = true := by simp
                  go_wp2_with (go_at_call 13; (with_reducible refine (CK.out _ B12.out).mono ?_); rintro e w13 ⟨rfl, b13⟩; have B13 := Lib.hid b13; clear b13)
                  go_ret
                  exact ⟨rfl, below_step (below_step BW8.out B12.out) B13.out⟩
end Go.Proofs.Ytddeegfdbnmemaa
