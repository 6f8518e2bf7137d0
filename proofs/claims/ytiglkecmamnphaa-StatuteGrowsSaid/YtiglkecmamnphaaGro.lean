/- StatuteGrows: its walk. -/
import Derived.Test.YtiglkecmamnphaaGm
import Derived.Test.YtiglkecmamnphaaPm
import Derived.Test.YtiglkecmamnphaaSq
import Derived.Test.YtiglkecmamnphaaQh
import Derived.RangeFuncBox
import Derived.Deep.DeepCutAuto
import Derived.Lib.QuietBelow
import Derived.BigQuiet
namespace Go.Proofs.Ytiglkecmamnphaa
open Go.RowKit Go.Sort Go.Lib
/-- The rules that integers make, as rows of one's own, laid in a call. -/
structure MO (w1 W : World) (cv rv fv : Value) (b : Bk) : Prop where
  o : ∃ cs, OwnB W w1.heap.size cv rv fv cs b.rpl b.fct ∧ cs.map (·.1) = b.cls
  b : Below w1.heap.size w1 W
theorem MO.deep {w1 W X : World} {cv rv fv : Value} {b : Bk} (h : MO w1 W cv rv fv b) (hb : Below W.heap.size W X) : MO w1 X cv rv fv b := by
  obtain ⟨cs, ho, hc⟩ := h.o
  exact ⟨⟨cs, ho.step hb, hc⟩, below_step h.b hb⟩
theorem fct_one {FS : List Fct} : ∀ y ∈ FS, ∀ u ∈ fctL y, u.oneCell' = true := fun y _ u hu => by
  simp [fctL] at hu
  rcases hu with rfl | rfl | rfl | rfl | rfl | rfl <;> rfl
theorem Bx.manyF {w W w1 : World} {gl : Nat} {cv rv fv fv' : Value} {cs : List CV} {rs : List Rpl} {fs fs2 : List Fct} (h : Bx w gl cv rv fv cs rs fs W) (hg : W.grownBy w1 fv.ownBlock) (ho : w1.ownsRow w.heap.size 57 6 fv' (fs.length + fs2.length) (flG fctL (fs ++ fs2))) : Row w1 gl 34 #[cv, rv, fv] ∧ Bx w gl cv rv fv' cs rs (fs ++ fs2) (w1.setCell ⟨gl, 2, none⟩ fv') := by
  have hc := h.r.grown hg (own_row3 h.o.f h.r (by decide))
  refine ⟨hc, Bx.putc 2 hc ⟨h.o.c.kept hg (own_apart h.o.c h.o.f (by decide)), fun q hq => ⟨(h.o.n q hq).1.kept h.o.f (by decide) hg, (h.o.n q hq).2.kept h.o.f (by decide) hg⟩, h.o.r.kept hg (own_apart h.o.r h.o.f (by decide)), ?_⟩ (keep_grown h.b hg h.o.f) h.l rfl⟩
  rw [List.length_append]
  exact ho
theorem made_own (C : List Six) (CA : Option Addr) (cc : Nat) (R : List Tri) (RA : Option Addr) (rc : Nat) (F : List Six) (FA : Option Addr) (fc : Nat) (hC : ∀ y ∈ C, In6 y) (hR : ∀ y ∈ R, In3 y) (hF : ∀ y ∈ F, In6 y) (lC : C.length ≤ 9223372036854775807) (lR : R.length ≤ 9223372036854775807) (lF : F.length ≤ 9223372036854775807) (w : World)
    (wC : Cells w w.heap.size CA 6 (C.map fun y => (sixL y).toArray)) (wR : Cells w w.heap.size RA 3 (R.map fun y => (triL y).toArray)) (wF : Cells w w.heap.size FA 6 (F.map fun y => (sixL y).toArray)) (W : World) (hb : Below w.heap.size w W) :
    Calls Try.prog 10 #[bkA CA C.length cc RA R.length rc FA F.length fc] W fun e w' => ∃ A c A2 c2 A3 c3, e = .returned (bkA A (madeB C R F).cls.length c A2 (madeB C R F).rpl.length c2 A3 (madeB C R F).fct.length c3) ∧ MO W w' (.slice A (madeB C R F).cls.length c) (.slice A2 (madeB C R F).rpl.length c2) (.slice A3 (madeB C R F).fct.length c3) (madeB C R F) ∧ Below W.heap.size W w' :=
  (made_ow C CA cc R RA rc F FA fc hC hR hF lC lR lF w wC wR wF W hb).mono fun e w' ⟨A, c, A2, c2, A3, c3, cs, he, ho, hc, hbb⟩ => ⟨A, c, A2, c2, A3, c3, he, ⟨⟨cs, ho, hc⟩, hbb⟩, hbb⟩

set_option maxRecDepth 100000 in
set_option maxHeartbeats 32000000 in
theorem grows_walk (hsane : ∀ W : World, Calls Try.prog 9 #[] W fun e w' => e = .returned (.bool true) ∧ Below W.heap.size W w') (C : List Six) (CA : Option Addr) (Cc : Nat) (R : List Tri) (RA : Option Addr) (Rc : Nat) (F : List Six) (FA : Option Addr) (Fc : Nat) (a0 a1 a2 a3 : Int) (C2 : List Six) (C2A : Option Addr) (C2c : Nat) (R2 : List Tri) (R2A : Option Addr) (R2c : Nat) (F2 : List Six) (F2A : Option Addr) (F2c : Nat) (ot : Int) (hC : ∀ y ∈ C, In6 y) (hR : ∀ y ∈ R, In3 y) (hF : ∀ y ∈ F, In6 y) (lC : C.length ≤ 9223372036854775807) (lR : R.length ≤ 9223372036854775807) (lF : F.length ≤ 9223372036854775807) (i0 : In64 a0) (i1 : In64 a1) (i2 : In64 a2) (i3 : In64 a3) (hC2 : ∀ y ∈ C2, In6 y) (hR2 : ∀ y ∈ R2, In3 y) (hF2 : ∀ y ∈ F2, In6 y) (lC2 : C2.length ≤ 9223372036854775807) (lR2 : R2.length ≤ 9223372036854775807) (lF2 : F2.length ≤ 9223372036854775807) (iot : In64 ot) (w : World) (wC : Cells w w.heap.size CA 6 (C.map fun y => (sixL y).toArray)) (wR : Cells w w.heap.size RA 3 (R.map fun y => (triL y).toArray)) (wF : Cells w w.heap.size FA 6 (F.map fun y => (sixL y).toArray)) (wC2 : Cells w w.heap.size C2A 6 (C2.map fun y => (sixL y).toArray)) (wR2 : Cells w w.heap.size R2A 3 (R2.map fun y => (triL y).toArray)) (wF2 : Cells w w.heap.size F2A 6 (F2.map fun y => (sixL y).toArray)) :
    Calls Try.prog 8 #[.agg #[.slice CA C.length Cc, .slice RA R.length Rc, .slice FA F.length Fc], .agg #[.slice C2A C2.length C2c, .slice R2A R2.length R2c, .slice F2A F2.length F2c], .agg #[.int .i64 a0, .int .i64 a1, .int .i64 a2, .int .i64 a3], .int .i64 ot] w fun e w' => e = .returned (.bool true) ∧ Below w.heap.size w w' := by
  have hpo := fun W => pick_any ot 20 iot.1 iot.2 (by omega) (by omega) W
  have ro := pk_range (c := ot) (n := 20) (by omega)
  generalize pk ot 20 = po at *
  have hmad2 := made_ow C2 C2A C2c R2 R2A R2c F2 F2A F2c hC2 hR2 hF2 lC2 lR2 lF2 w wC2 wR2 wF2
  have hve := made_valid C2 R2 F2
  have hle := made_len C2 R2 F2
  generalize madeB C2 R2 F2 = e at *
  generalize hEC : e.cls.length = EC at *
  generalize hER : e.rpl.length = ER at *
  generalize hEF : e.fct.length = EF at *
  generalize C2.length = LC2 at *
  generalize R2.length = LR2 at *
  generalize F2.length = LF2 at *
  have HPO := Lib.hid hpo; have HMAD2 := Lib.hid hmad2; have VE := Lib.hid hve; have HLE := Lib.hid hle; have EEC := Lib.hid hEC; have EER := Lib.hid hER; have EEF := Lib.hid hEF
  clear hpo hmad2 hve hle hEC hER hEF iot hC2 hR2 hF2 lC2 lR2 lF2 wC2 wR2 wF2
  have hmad := made_own C CA Cc R RA Rc F FA Fc hC hR hF lC lR lF w wC wR wF
  have hask := fun W => ask_ref a0 a1 a2 a3 i0 i1 i2 i3 W
  have hvb := made_valid C R F
  have hln := made_len C R F
  have haq := ask_asks a0 a1 a2 a3
  generalize hbb : madeB C R F = b at *
  generalize hqq : askI a0 a1 a2 a3 = q at *
  generalize hNC : b.cls.length = NC at *
  generalize hNR : b.rpl.length = NR at *
  generalize hNF : b.fct.length = NF at *
  generalize C.length = LC at *
  generalize R.length = LR at *
  generalize F.length = LF at *
  have SAN := Lib.hid hsane; have HMAD := Lib.hid hmad; have HASK := Lib.hid hask; have VB := Lib.hid hvb; have AQ := Lib.hid haq; have ENC := Lib.hid hNC; have ENR := Lib.hid hNR; have ENF := Lib.hid hNF; have EB := Lib.hid hbb; have EQ := Lib.hid hqq; have HLN := Lib.hid hln
  clear hsane hmad hask hvb haq hC hR hF lC lR lF wC wR wF i0 i1 i2 i3 hNC hNR hNF hbb hqq hln
  obtain ⟨W0, hW0⟩ : ∃ W0, W0 = (((w.alloc (.cells #[.slice CA LC Cc, .slice RA LR Rc, .slice FA LF Fc] 25)).alloc (.cells #[.slice C2A LC2 C2c, .slice R2A LR2 R2c, .slice F2A LF2 F2c] 25)).alloc (.cells #[.int .i64 a0, .int .i64 a1, .int .i64 a2, .int .i64 a3] 26)) := ⟨_, rfl⟩
  have BW : Hid (Below w.heap.size w W0) := Lib.hid (by rw [hW0]; exact keep_alloc (keep_alloc (keep_alloc (Below.refl _ _) _) _) _)
  have X : Hid (Row W0 (w.heap.size) 25 #[.slice CA LC Cc, .slice RA LR Rc, .slice FA LF Fc]) := Lib.hid (by rw [hW0]; exact ((Row.made _ _ _).later _).later _)
  have Z : Hid (Row W0 (w.heap.size + 1) 25 #[.slice C2A LC2 C2c, .slice R2A LR2 R2c, .slice F2A LF2 F2c]) := Lib.hid (by rw [hW0]; exact (Row.made_at _ _ _ (by simp)).later _)
  have Y : Hid (Row W0 (w.heap.size + 1 + 1) 26 #[.int .i64 a0, .int .i64 a1, .int .i64 a2, .int .i64 a3]) := Lib.hid (by rw [hW0]; exact Row.made_at _ _ _ (by simp))
  go_enter Try.func8, Try.ntmps8
  go_upto_region 1 with (fail)
  rw [← hW0]
  clear hW0
  go_upto_region 3 with (go_at_call 9; (with_reducible refine (SAN.out _).mono ?_); rintro e w1 ⟨rfl, b⟩; replace X := Lib.hid (X.out.step b); replace Z := Lib.hid (Z.out.step b); replace Y := Lib.hid (Y.out.step b); replace BW := Lib.hid (below_step BW.out b); clear b)
  obtain ⟨x0, x1, x2, _, _, _⟩ := X.out.three
  have Y1 := Y; have BW1 := BW
  go_upto_region 4 with (go_at_call 10; (with_reducible refine (HMAD.out _ BW.out).mono ?_); rintro e w2 ⟨A1, c1, A2, c2, A3, c3, rfl, bk, b⟩; replace X := Lib.hid (X.out.step b); replace Z := Lib.hid (Z.out.step b); replace Y := Lib.hid (Y.out.step b); replace BW := Lib.hid (below_step BW.out b); have BK := Lib.hid bk; have LGB := Lib.hid b.size; clear b bk)
  obtain ⟨W2, hW2⟩ : ∃ W, W = w2.alloc (.cells #[.slice A1 NC c1, .slice A2 NR c2, .slice A3 NF c3] 34) := ⟨_, rfl⟩
  rw [← hW2]
  have b : Below w2.heap.size w2 W2 := by rw [hW2]; exact below_alloc _ _
  have CR : Hid (Row W2 w2.heap.size 34 #[.slice A1 NC c1, .slice A2 NR c2, .slice A3 NF c3]) := Lib.hid (by rw [hW2]; exact Row.made _ _ _)
  replace X := Lib.hid (X.out.step b); replace Z := Lib.hid (Z.out.step b); replace Y := Lib.hid (Y.out.step b); replace BK := Lib.hid (BK.out.deep b); replace BW := Lib.hid (below_step BW.out b)
  obtain ⟨gc, hgc⟩ : ∃ g, g = w2.heap.size := ⟨_, rfl⟩
  rw [← hgc] at CR LGB ⊢
  clear hW2 b x0 x1 x2 hgc
  obtain ⟨z0, z1, z2, _, _, _⟩ := Z.out.three
  obtain ⟨th, sy, tm, kn⟩ := q
  have LTA := Lib.hid (show ∀ g, A1 = some ⟨g, 0, none⟩ → g < W2.heap.size from fun g hg => by obtain ⟨cs, ho, _⟩ := BK.out.o; exact (ho.c.lt g (by rw [hg]; rfl)).2)
  go_upto_region 5 with (go_at_call 10; (with_reducible refine (HMAD2.out _ BW.out).mono ?_); rintro e_ w4 ⟨G1, g1, G2, g2, G3, g3, es, rfl, eo, hes, b⟩; replace X := Lib.hid (X.out.step b); replace Z := Lib.hid (Z.out.step b); replace Y := Lib.hid (Y.out.step b); replace BK := Lib.hid (BK.out.deep b); replace CR := Lib.hid (CR.out.step b); replace BW := Lib.hid (below_step BW.out b); have EX := Lib.hid eo; have HES := Lib.hid hes; clear b eo hes)
  obtain ⟨W4, hW4⟩ : ∃ W, W = w4.alloc (.cells #[.slice G1 EC g1, .slice G2 ER g2, .slice G3 EF g3] 34) := ⟨_, rfl⟩
  rw [← hW4]
  have b : Below w4.heap.size w4 W4 := by rw [hW4]; exact below_alloc _ _
  have XR : Hid (Row W4 w4.heap.size 34 #[.slice G1 EC g1, .slice G2 ER g2, .slice G3 EF g3]) := Lib.hid (by rw [hW4]; exact Row.made _ _ _)
  replace X := Lib.hid (X.out.step b); replace Z := Lib.hid (Z.out.step b); replace Y := Lib.hid (Y.out.step b); replace BK := Lib.hid (BK.out.deep b); replace CR := Lib.hid (CR.out.step b); replace EX := Lib.hid (EX.out.step b); replace BW := Lib.hid (below_step BW.out b)
  clear b
  obtain ⟨ge, hge⟩ : ∃ g, g = w4.heap.size := ⟨_, rfl⟩
  rw [← hge] at XR ⊢
  obtain ⟨eb0, hEB⟩ : ∃ z, z = W2.heap.size := ⟨_, rfl⟩
  rw [← hEB] at EX LTA
  obtain ⟨cs, ho, hcs⟩ := BK.out.o
  have hbx : Bx w1 gc (.slice A1 NC c1) (.slice A2 NR c2) (.slice A3 NF c3) cs b.rpl b.fct W4 := ⟨ho, CR.out, BK.out.b, LGB.out⟩
  have csl : cs.length = NC := by have := congrArg List.length hcs; rw [List.length_map, ENC.out] at this; exact this
  have BX0 := Lib.hid hbx; have HCS := Lib.hid hcs; have CSL := Lib.hid csl
  clear hW4 hge hEB ho hcs hbx csl z0 z1 z2 X Y Z BW BK CR LGB
  obtain ⟨nl1, nl2, nl3⟩ := HLN.out; obtain ⟨el1, el2, el3⟩ := HLE.out
  go_wp2
  go_loopg [11] NC (fun kx s11 wr => ∃ (k : Nat) (cs1 : List CV), s11 = .int .i64 (k : Int) ∧ k + kx = NC ∧ Bx w1 gc (.slice A1 NC c1) (.slice A2 NR c2) (.slice A3 NF c3) cs1 b.rpl b.fct wr ∧ Hid (OwnB wr eb0 (.slice G1 EC g1) (.slice G2 ER g2) (.slice G3 EF g3) es e.rpl e.fct) ∧ Hid (Row wr ge 34 #[.slice G1 EC g1, .slice G2 ER g2, .slice G3 EF g3]) ∧ Hid (cs1.length = NC) ∧ Hid (cs1.map (·.1) = (b.cls.take k).map (fun c : Cls => { c with bars := [] }) ++ b.cls.drop k))
  case atStart => exact ⟨0, _, rfl, by omega, BX0.out, EX, XR, CSL, Lib.hid (by rw [HCS.out]; simp)⟩
  case round =>
    clear BX0 EX XR CSL HCS cs
    obtain ⟨k, cs1, rfl, hk, hM, EX, XR, CSL, HCT⟩ := hrel
    have cc0 := hM.r.at (i := 0) rfl
    by_cases hlt : k < NC
    · as_aux_lemma =>
      obtain ⟨⟨y, ynv, ybv⟩, hp⟩ : ∃ p, cs1[k]? = some p := at_lt (by rw [CSL.out]; exact hlt)
      obtain ⟨gA, hG1, gEl, hcell⟩ := own_elem clsL_len (by rw [CSL.out]; have := hM.o.c; rw [CSL.out] at this; exact this) hp
      subst hG1
      have e4 := hcell 4 _ rfl
      have hM' : Bx w1 gc (.slice (some ⟨gA, 0, none⟩) cs1.length c1) (.slice A2 NR c2) (.slice A3 NF c3) cs1 b.rpl b.fct wr := by rw [CSL.out]; exact hM
      have hf4 := hM'.o.c.frozenAt (k * 6 + 4)
      have bx2 := hM'.setB hp (IRow.nil wr)
      have ex2 := EX.out.off (j := k * 6 + 4) (v := nilS) hM'.o.c (LTA.out gA rfl)
      have xr2 := XR.out.aside (p := ⟨gA, k * 6 + 4, none⟩) (fun e => own_row3 hM'.o.c XR.out (by decide) (by rw [← e]; rfl)) nilS
      have kFi : (k : Int) < (NC : Int) := by omega
      have hy : b.cls[k]? = some y := by
        have h1 : (cs1.map (·.1))[k]? = some y := by rw [List.getElem?_map, hp]; rfl
        rw [HCT.out, List.getElem?_append_right (by rw [List.length_map, List.length_take, ENC.out]; omega)] at h1
        rw [List.length_map, List.length_take, ENC.out, Nat.min_eq_left (by omega), List.getElem?_drop] at h1
        simpa using h1
      have hkb : k < b.cls.length := by rw [ENC.out]; exact hlt
      have hnx : (cs1.set k ({ y with bars := [] }, ynv, nilS)).map (·.1) = (b.cls.take (k + 1)).map (fun c : Cls => { c with bars := [] }) ++ b.cls.drop (k + 1) := by
        rw [List.map_set, HCT.out, List.take_add_one, hy, List.map_append, List.append_assoc]
        rw [List.set_append_right _ _ (by rw [List.length_map, List.length_take]; omega), List.length_map, List.length_take, Nat.min_eq_left (by omega), Nat.sub_self]
        congr 1
        rw [List.drop_eq_getElem_cons hkb]
        rw [List.getElem?_eq_getElem hkb] at hy
        rfl
      have BX2 := Lib.hid bx2; have EX2 := Lib.hid ex2; have XR2 := Lib.hid xr2; have HNX := Lib.hid hnx
      clear bx2 ex2 xr2 hnx hM' hy hkb hcell
      go_wp2
      go_roundg (NC - (k + 1))
      case measure => omega
      case rel => exact ⟨k + 1, _, by go_num, by omega, (by have := BX2.out; rw [List.length_set, CSL.out] at this; exact this), EX2, XR2, Lib.hid (by rw [List.length_set]; exact CSL.out), HNX⟩
    · obtain rfl : k = NC := by omega
      go_upto_region 9 with (fail)
      have hcf : cs1.map (·.1) = (bareB b).cls := by rw [HCT.out, List.take_of_length_le (by rw [ENC.out]; exact Nat.le_refl _), List.drop_eq_nil_of_le (by rw [ENC.out]; exact Nat.le_refl _), List.append_nil]; rfl
      have hv0 := bare_valid VB.out
      have hno := bare_none b
      have hl0 : (bareB b).cls.length = k := by rw [← hcf, List.length_map]; exact CSL.out
      have hbe : bareB b = ⟨cs1.map (·.1), b.rpl, b.fct⟩ := by rw [hcf]; rfl
      have hr0 : (bareB b).rpl = b.rpl := rfl
      have hf0 : (bareB b).fct = b.fct := rfl
      have ENR0 := ENR.out; have ENF0 := ENF.out
      have hbk := hM.bk hbe hv0
      have ho := hM.o
      rw [← hr0] at ho ENR0
      rw [← hf0] at ho ENF0
      generalize hbb : bareB b = b' at *
      have BK := Lib.hid hbk; have CR := Lib.hid hM.r; have OW := Lib.hid ho; have HCS := Lib.hid hcf; have HNB := Lib.hid hno
      have BW := Lib.hid (below_step BW1.out hM.b); have Y := Lib.hid (Y1.out.step hM.b)
      clear VB ENC ENR ENF EB EQ hbe hr0 hf0 hbb hbk ho hno hcf
      have VB := Lib.hid hv0; have ENC := Lib.hid hl0; have ENR := Lib.hid ENR0; have ENF := Lib.hid ENF0
      clear hv0 hl0 ENR0 ENF0 hM cc0 HCT hk hlt BW1 Y1
      obtain ⟨b, hbb⟩ : ∃ z, z = b' := ⟨_, rfl⟩
      rw [← hbb] at BK OW HCS HNB VB ENC ENR ENF
      clear hbb
      obtain ⟨NC, hNC⟩ : ∃ z, z = k := ⟨_, rfl⟩
      rw [← hNC] at BK OW ENC CR CSL nl1 ⊢
      clear hNC
      obtain ⟨y0, y1, y2, y3⟩ := box4 Y.out
      go_upto_region 10 with (go_at_call 11; (with_reducible refine (HASK.out _).mono ?_); rintro e w3 ⟨rfl, b⟩; replace BK := Lib.hid (BK.out.deep b); replace CR := Lib.hid (CR.out.step b); replace OW := Lib.hid (OW.out.step b); replace EX := Lib.hid (EX.out.step b); replace XR := Lib.hid (XR.out.step b); replace Y := Lib.hid (Y.out.step b); replace BW := Lib.hid (below_step BW.out b); clear b)
      obtain ⟨W3, hW3⟩ : ∃ W, W = w3.alloc (.cells #[.int .i64 th, .int .i64 sy, .int .i64 tm, .int .i64 kn] 37) := ⟨_, rfl⟩
      unfold qnC
      dsimp only
      rw [← hW3]
      have b : Below w3.heap.size w3 W3 := by rw [hW3]; exact below_alloc _ _
      have QR : Hid (Row W3 w3.heap.size 37 #[.int .i64 th, .int .i64 sy, .int .i64 tm, .int .i64 kn]) := Lib.hid (by rw [hW3]; exact Row.made _ _ _)
      replace BK := Lib.hid (BK.out.deep b); replace CR := Lib.hid (CR.out.step b); replace OW := Lib.hid (OW.out.step b); replace EX := Lib.hid (EX.out.step b); replace XR := Lib.hid (XR.out.step b); replace Y := Lib.hid (Y.out.step b); replace BW := Lib.hid (below_step BW.out b)
      obtain ⟨gq, hgq⟩ : ∃ g, g = w3.heap.size := ⟨_, rfl⟩
      rw [← hgq] at QR ⊢
      clear hW3 b y0 y1 y2 y3 hgq
      obtain ⟨k0, k1, k2, _, _, _⟩ := CR.out.three
      obtain ⟨q0, q1, q2, q3⟩ := box4 QR.out
      have hdec := fun (W : World) (h : BkV W W.heap.size (.slice A1 NC c1) (.slice A2 NR c2) (.slice A3 NF c3) b) => decide_prf b ⟨th, sy, tm, kn⟩ VB.out AQ.out _ _ _ W h
      unfold qnC at hdec
      dsimp only at hdec
      generalize hso : soB b ⟨th, sy, tm, kn⟩ sy = so at hdec
      have HDEC := Lib.hid hdec; have HSO := Lib.hid hso
      clear hdec hso
      go_upto_region 11 with (go_at_call 12; (with_reducible refine (HDEC.out _ BK.out).mono ?_); rintro e w4 ⟨g, n, c, l, rfl, pf, ⟨n0, n20⟩, b⟩; replace BK := Lib.hid (BK.out.deep b); replace CR := Lib.hid (CR.out.step b); replace OW := Lib.hid (OW.out.step b); replace EX := Lib.hid (EX.out.step b); replace XR := Lib.hid (XR.out.step b); replace Y := Lib.hid (Y.out.step b); replace QR := Lib.hid (QR.out.step b); replace BW := Lib.hid (below_step BW.out b); have PF := Lib.hid pf; clear b pf)
      clear k0 k1 k2 q0 q1 q2 q3
      have hnc := PF.out.cap
      obtain ⟨k0, k1, k2, _, _, _⟩ := CR.out.three
      obtain ⟨q0, q1, q2, q3⟩ := box4 QR.out
      have huse := fun (W : World) (h : BkV W W.heap.size (.slice A1 NC c1) (.slice A2 NR c2) (.slice A3 NF c3) b) (hl : FdsC W (some ⟨g, 0, none⟩) l) => uses_yes b ⟨th, sy, tm, kn⟩ l (some ⟨g, 0, none⟩) c (by rw [PF.out.len]; show n ≤ 9223372036854775807; omega) (by rw [PF.out.len]; exact hnc) _ _ _ W h (bki_of VB.out) hl VB.out AQ.out PF.out.slim.1
      rw [PF.out.len] at huse
      unfold qnC twoR at huse
      dsimp only at huse
      have HUSE := Lib.hid huse
      clear huse
      go_upto_region 12 with (go_at_call 18; (with_reducible refine (HUSE.out _ BK.out PF.out.fds).mono ?_); rintro e w5 ⟨av, bv, rfl, i1, i2, b⟩; replace BK := Lib.hid (BK.out.deep b); replace CR := Lib.hid (CR.out.step b); replace OW := Lib.hid (OW.out.step b); replace EX := Lib.hid (EX.out.step b); replace XR := Lib.hid (XR.out.step b); replace Y := Lib.hid (Y.out.step b); replace QR := Lib.hid (QR.out.step b); replace PF := Lib.hid (PF.out.step b); replace BW := Lib.hid (below_step BW.out b); have IF := Lib.hid i1; have IC := Lib.hid i2; clear b i1 i2)
      clear k0 k1 k2 q0 q1 q2 q3 HUSE HDEC
      obtain ⟨hsub, hlv, hlso, hlpr⟩ := less_all VB.out AQ.out PF.out.slim.1
      dsimp only at hlso hlpr
      rw [HSO.out] at hlso
      generalize (usesL b ⟨th, sy, tm, kn⟩ l).2 = Cl at *
      generalize (usesL b ⟨th, sy, tm, kn⟩ l).1 = F' at *
      obtain ⟨FA', fcc, rfl, fb9, hnF⟩ := IF.out
      obtain ⟨CLA, ccc, rfl, cb9, hnC⟩ := IC.out
      obtain ⟨l1, l2⟩ := sub_len hsub
      rw [ENC.out] at l1
      rw [ENF.out] at l2
      have NUF := Lib.hid hnF; have NUC := Lib.hid hnC; have SUB := Lib.hid hsub; have HLV := Lib.hid hlv; have HLSO := Lib.hid hlso; have HLPR := Lib.hid hlpr
      obtain ⟨nl1, nl2, nl3⟩ := HLN.out
      obtain ⟨FN, hFN⟩ : ∃ n, n = F'.length := ⟨_, rfl⟩
      obtain ⟨CN, hCN⟩ : ∃ n, n = Cl.length := ⟨_, rfl⟩
      rw [← hFN] at IF l2 ⊢
      rw [← hCN] at IC l1 ⊢
      have HFN := Lib.hid hFN; have HCN := Lib.hid hCN
      clear hnF hnC hsub hlv hlso hlpr hFN hCN fb9 cb9
      obtain ⟨k0, k1, k2, _, _, _⟩ := CR.out.three
      have hcp := copy_bx b VB.out A1 c1 A2 c2 A3 c3
      rw [ENC.out, ENR.out, ENF.out] at hcp
      have HCP := Lib.hid hcp
      clear hcp
      go_upto_region 13 with (go_at_call 15; (with_reducible refine (HCP.out _ BK.out).mono ?_); rintro e_ w9 ⟨B1, d1, B2, d2, B3, d3, ds, rfl, hcs, hbx⟩; have HDS := Lib.hid hcs; have HBX := Lib.hid hbx; clear hcs hbx)
      obtain ⟨W10, hW10⟩ : ∃ W, W = w9.alloc (.cells #[.slice B1 ds.length d1, .slice B2 NR d2, .slice B3 NF d3] 34) := ⟨_, rfl⟩
      rw [← hW10] at HBX ⊢
      obtain ⟨gl, hgl⟩ : ∃ g, g = w9.heap.size := ⟨_, rfl⟩
      rw [← hgl] at HBX ⊢
      obtain ⟨ic, hc0, hcz, hcs_, hcb⟩ := info_parts cls_info
      obtain ⟨ir, hr0, hrz, hrs_, hrb⟩ := info_parts rpl_info
      obtain ⟨if_, hf0, hfz, hfs_, hfb⟩ := info_parts fct_info
      have INF := Lib.hid (And.intro (And.intro hc0 (And.intro hcz (And.intro hcs_ hcb))) (And.intro (And.intro hr0 (And.intro hrz (And.intro hrs_ hrb))) (And.intro hf0 (And.intro hfz (And.intro hfs_ hfb)))))
      have dsl : ds.length = NC := by have := congrArg List.length HDS.out; rw [List.length_map, ENC.out] at this; exact this
      have esl : es.length = EC := by have := congrArg List.length HES.out; rw [List.length_map, EEC.out] at this; exact this
      have DSL := Lib.hid dsl; have ESL := Lib.hid esl
      clear hW10 hgl k0 k1 k2 HCP hc0 hcz hcs_ hcb hr0 hrz hrs_ hrb hf0 hfz hfs_ hfb dsl esl
      go_wp2
      go_loopg [20, 21] EC (fun kx s20 s21 wr => ∃ (k : Nat) (cv : Value) (cs2 : List CV), s20 = .int .i64 (k : Int) ∧ k + kx = EC ∧ Bx w5 gl cv (.slice B2 NR d2) (.slice B3 NF d3) cs2 b.rpl b.fct wr ∧ Hid (cs2.map (·.1) = b.cls ++ (e.cls.take k).map (fun c : Cls => { c with bars := [] })))
      case atStart => exact ⟨0, _, ds, rfl, by omega, HBX.out, Lib.hid (by rw [HDS.out]; simp)⟩
      case round =>
        clear HBX
        obtain ⟨k, cv, cs2, rfl, hk, hM, HGT⟩ := hrel
        have xr := XR.out.step hM.b
        have xe0 := xr.at (i := 0) rfl
        by_cases hlt : k < EC
        · obtain ⟨⟨y, ynv, ybv⟩, hp⟩ : ∃ p, es[k]? = some p := at_lt (by rw [ESL.out]; exact hlt)
          have hoe := (EX.out.step hM.b)
          have hec := hoe.c
          rw [← ESL.out] at hec
          obtain ⟨gE, hG1, gEl, hcell⟩ := own_elem clsL_len hec hp
          subst hG1
          obtain ⟨NA, nl, nc_, rfl⟩ := own_form (hoe.n _ (List.mem_of_getElem? hp)).1
          obtain ⟨BA, bl, bc_, rfl⟩ := own_form (hoe.n _ (List.mem_of_getElem? hp)).2
          have e0 := hcell 0 _ rfl
          have e1 := hcell 1 _ rfl
          have e2 := hcell 2 _ rfl
          have e3 := hcell 3 _ rfl
          have e4 := hcell 4 _ rfl
          have e5 := hcell 5 _ rfl
          rw [Nat.add_zero] at e0
          dsimp only at e0 e1 e2 e3 e4 e5
          have hy : e.cls[k]? = some y := by rw [← HES.out, List.getElem?_map, hp]; rfl
          have hnx : (e.cls.take (k + 1)).map (fun c : Cls => { c with bars := [] }) = (e.cls.take k).map (fun c : Cls => { c with bars := [] }) ++ [{ y with bars := [] }] := by rw [List.take_add_one, hy, List.map_append]; rfl
          have hcl : cs2.length ≤ 16 := by
            have := congrArg List.length HGT.out
            rw [List.length_map, List.length_append, List.length_map, List.length_take, ENC.out] at this
            omega
          have irn := fun (W : World) (hb : Below wr.heap.size wr W) => (hoe.n _ (List.mem_of_getElem? hp)).1.step hb
          have kEi : (k : Int) < (EC : Int) := by omega
          obtain ⟨pub, sf, se, needs, bars, gives⟩ := y
          dsimp only at e0 e1 e2 e3 e4 e5 irn hnx
          have HNX := Lib.hid hnx; have MM := Lib.hid hM; have IRN := Lib.hid irn
          clear hnx hM irn hoe hec hcell hp hy gEl xr
          go_upto_region 17 with (fail)
          obtain ⟨W5, hW5⟩ : ∃ W5, W5 = wr.alloc (.cells #[.int .i64 pub, .int .i64 sf, .int .i64 se, .slice NA nl nc_, .slice BA bl bc_, .int .i64 gives] 51) := ⟨_, rfl⟩
          rw [← hW5]
          have b5 : Below wr.heap.size wr W5 := by rw [hW5]; exact below_alloc _ _
          have r5 : Row W5 wr.heap.size 51 #[.int .i64 pub, .int .i64 sf, .int .i64 se, .slice NA nl nc_, .slice BA bl bc_, .int .i64 gives] := by rw [hW5]; exact Row.made _ _ _
          clear hW5 e0 e1 e2 e3 e4 e5 xe0
          have z4 := r5.at (i := 4) rfl; have y4 := r5.free 4
          have B5 := Lib.hid b5; have R5 := Lib.hid r5
          clear b5 r5
          go_upto_region 18 with (fail)
          obtain ⟨wc, hwc⟩ : ∃ W, W = W5.setCell ⟨wr.heap.size, 4, none⟩ (.slice none 0 0) := ⟨_, rfl⟩
          rw [← hwc]
          have b6 : Below wr.heap.size wr wc := by rw [hwc]; exact B5.out.setCell (p := ⟨wr.heap.size, 4, none⟩) (Nat.le_refl _) _
          have r6 : Row wc wr.heap.size 51 #[.int .i64 pub, .int .i64 sf, .int .i64 se, .slice NA nl nc_, .slice none 0 0, .int .i64 gives] := by rw [hwc]; exact R5.out.stored 4 _
          have R6 := Lib.hid r6; have B6 := Lib.hid b6
          clear hwc r6 b6 z4 y4 R5 B5
          have bx9 := MM.out.step B6.out
          obtain ⟨CVA, cvc, rfl⟩ := own_len bx9.o.c
          obtain ⟨K, hK⟩ : ∃ K, K = cs2.length := ⟨_, rfl⟩
          have HKK := Lib.hid hK.symm
          have k0 := bx9.r.at (i := 0) rfl
          rw [← hK] at hcl k0
          obtain ⟨c0, c1_, c2_, c3_, c4_, c5_⟩ := row6 R6.out
          have BX9 := Lib.hid bx9
          clear bx9 hK
          obtain ⟨W7, hW7⟩ : ∃ W7, W7 = wc.alloc (.cells (clsL ((⟨pub, sf, se, needs, [], gives⟩, .slice NA nl nc_, nilS) : CV)).toArray 51) := ⟨_, rfl⟩
          have m7 := BX9.out.step (show Below wc.heap.size wc W7 from by rw [hW7]; exact below_alloc _ _)
          have hp := show IRow W7 (.slice NA nl nc_) needs ∧ IRow W7 nilS [] from by rw [hW7]; exact ⟨(IRN.out _ B6.out).step (below_alloc _ _), IRow.nil _⟩
          have hnew := new_at wc 51 (clsL ((⟨pub, sf, se, needs, [], gives⟩, .slice NA nl nc_, nilS) : CV))
          rw [← hW7] at hnew
          have hbase := m7.b.size
          have hown := m7.o.c
          rw [HKK.out] at hown
          have M7 := Lib.hid m7; have HNEW := Lib.hid hnew; have HOWN := Lib.hid hown; have HPP := Lib.hid hp
          have HW7 := Lib.hid hW7
          clear hW7 m7 hnew hown hp
          go_wp2_with (at_builtin; change wpList _ _ _ _ _ (wc.alloc (.cells (clsL ((⟨pub, sf, se, needs, [], gives⟩, .slice NA nl nc_, nilS) : CV)).toArray 51)); rw [← HW7.out]; refine wpList_append_own _ rfl _ _ 30 rfl w5.heap.size 51 ic (.agg #[.int .i64 0, .int .i64 0, .int .i64 0, .slice none 0 0, .slice none 0 0, .int .i64 0]) 6 80 Try.underlying30 INF.out.1.1 INF.out.1.2.1 INF.out.1.2.2.1 INF.out.1.2.2.2 rfl (by decide) _ _ _ rfl HOWN.out ⟨wc.heap.size, 0, none⟩ 1 1 (clsL ((⟨pub, sf, se, needs, [], gives⟩, .slice NA nl nc_, nilS) : CV)) rfl rfl HNEW.out (clsL_one _ rfl rfl) (by unfold maxLen; omega) (by omega) hbase ?_; intro v' w8 own8 hg8 _; obtain ⟨g', cap', rfl⟩ := ownsRow_succ own8; rw [← HKK.out] at own8; have q8 := Bx.addC (p := ((⟨pub, sf, se, needs, [], gives⟩, .slice NA nl nc_, nilS) : CV)) M7.out HPP.out (by rw [← HKK.out] at hg8; exact hg8) own8; rw [HKK.out] at q8; obtain ⟨hc8, m8⟩ := q8; obtain ⟨_, _, _, u3, u4, u5⟩ := hc8.three; have N8 := Lib.hid m8; clear own8 hg8 m8 hc8)
          go_roundg (EC - (k + 1))
          case measure => omega
          case rel => exact ⟨k + 1, _, _, by go_num, by omega, N8.out, Lib.hid (by rw [HNX.out, List.map_append, HGT.out, List.append_assoc]; rfl)⟩
        · obtain rfl : k = EC := by omega
          obtain ⟨CVA, cvc, rfl⟩ := own_len hM.o.c
          have hgf : cs2.map (·.1) = b.cls ++ e.cls.map (fun c : Cls => { c with bars := [] }) := by rw [HGT.out, List.take_of_length_le (by rw [EEC.out]; exact Nat.le_refl _)]
          go_upto_region 19 with (fail)
          have xe2 := xr.at (i := 2) rfl
          have cfs := (own_rowsV fctL_len (by rw [EEF.out]; show EF ≤ 9223372036854775807; omega) (by rw [EEF.out]; have := (EX.out.step hM.b).f; rw [EEF.out] at this; exact this)).cells
          have hof := hM.o.f
          rw [ENF.out] at hof
          have g2 := hM.r.at (i := 2) rfl
          have MM := Lib.hid hM; have HGF := Lib.hid hgf; have CFS := Lib.hid cfs; have HOF := Lib.hid hof
          clear hM hgf cfs hof xr xe0 hk hlt HGT
          go_upto_region 20 with (at_builtin; refine wpList_append_G (enc := fctL) fctL_len Try.underlying32 fct_info rfl (by decide) (by decide) rfl _ _ (by rfl) w5.heap.size _ NF b.fct (by rfl) HOF.out G3 EF g3 e.fct (by rfl) EEF.out.symm fct_one CFS.out (by omega) MM.out.b.size ?_; intro v1 w6 o6 g6; obtain ⟨VF, vfc, rfl⟩ := own_len o6; have q8 := MM.out.manyF (fs2 := e.fct) g6 (by rw [ENF.out, EEF.out]; exact o6); obtain ⟨hc8, m8⟩ := q8; obtain ⟨_, _, _, u3, u4, u5⟩ := hc8.three; have N8 := Lib.hid m8; clear o6 g6 m8 hc8)
          obtain ⟨W11, hW11⟩ : ∃ W, W = w6.setCell ⟨gl, 2, none⟩ (.slice VF (NF + EF) vfc) := ⟨_, rfl⟩
          rw [← hW11] at N8 ⊢
          clear hW11 u3 u4 u5 xe2 g2 HOF CFS MM
          have hbg : grownB b e = ⟨cs2.map (·.1), b.rpl, b.fct ++ e.fct⟩ := by rw [HGF.out]; rfl
          have hgv := grown_valid VB.out VE.out (by rw [ENC.out, EEC.out]; omega) (by rw [ENF.out, EEF.out]; omega)
          have hmo := fun h => so_more (low_of VB.out) (low_of hgv) HNB.out (less_app b ⟨th, sy, tm, kn⟩ (bareB e).cls e.fct) (says_of AQ.out).1 (says_of AQ.out).2 h
          dsimp only at hmo
          rw [HSO.out] at hmo
          obtain ⟨sg, hsg⟩ : ∃ z, z = soB (grownB b e) ⟨th, sy, tm, kn⟩ sy := ⟨_, rfl⟩
          have hag : so = true → sg = true := fun h => hsg.trans (hmo h)
          have hd := dec_val (grownB b e) ⟨th, sy, tm, kn⟩ sg hgv AQ.out hsg.symm _ _ _ _ (N8.out.bk hbg hgv)
          unfold qnC at hd
          dsimp only at hd
          have hb := N8.out.b
          have GR := Lib.hid N8.out.r
          have HD := Lib.hid hd; have HAG := Lib.hid hag
          clear EX XR Y
          replace BK := Lib.hid (BK.out.deep hb); replace CR := Lib.hid (CR.out.step hb); replace OW := Lib.hid (OW.out.step hb); replace QR := Lib.hid (QR.out.step hb); replace NUF := Lib.hid (NUF.out.deep hb); replace NUC := Lib.hid (NUC.out.deep hb); replace IF := Lib.hid (IF.out.deep hb); replace IC := Lib.hid (IC.out.deep hb); replace PF := Lib.hid (PF.out.step hb); replace BW := Lib.hid (below_step BW.out hb)
          clear hbg hgv hmo hsg hag hd hb N8 HGF
          obtain ⟨k0, k1, k2, _, _, _⟩ := GR.out.three
          obtain ⟨q0, q1, q2, q3⟩ := box4 QR.out
          go_upto_region 21 with (go_at_call 12; (with_reducible refine HD.out.mono ?_); rintro e_ w13 ⟨E1, m1, c1', rfl, b⟩; replace BK := Lib.hid (BK.out.deep b); replace CR := Lib.hid (CR.out.step b); replace OW := Lib.hid (OW.out.step b); replace QR := Lib.hid (QR.out.step b); replace NUF := Lib.hid (NUF.out.deep b); replace NUC := Lib.hid (NUC.out.deep b); replace IF := Lib.hid (IF.out.deep b); replace IC := Lib.hid (IC.out.deep b); replace PF := Lib.hid (PF.out.step b); replace GR := Lib.hid (GR.out.step b); replace BW := Lib.hid (below_step BW.out b); clear b)
          clear k0 k1 k2 q0 q1 q2 q3 GR HD
          go_cut [125] (fun s125 W => s125 = .bool false ∧ W = w13)
          case first => as_aux_lemma =>
            cases so
            · go_wp2
              go_meet
              case rel => exact ⟨rfl, rfl⟩
            · obtain rfl := HAG.out rfl
              go_wp2
              go_meet
              case rel => exact ⟨rfl, rfl⟩
          case rest =>
            obtain ⟨rfl, hwc⟩ := hcut
            rw [hwc]
            clear hwc wc
            go_upto_region 24 with (fail)
            obtain ⟨cs, hcsx⟩ : ∃ z, z = cs1 := ⟨_, rfl⟩
            rw [← hcsx] at OW HCS
            clear hcsx CSL
            obtain ⟨W7, hW7⟩ : ∃ W, W = w13.alloc (.cells #[.slice none 0 0, .slice none 0 0, .slice none 0 0] 34) := ⟨_, rfl⟩
            rw [← hW7]
            have b : Below w13.heap.size w13 W7 := by rw [hW7]; exact below_alloc _ _
            have hbx : Bx w13 w13.heap.size nilS nilS nilS [] [] [] W7 := ⟨OwnB.none _ _, by rw [hW7]; exact Row.made _ _ _, b, Nat.le_refl _⟩
            obtain ⟨gl, hgl⟩ : ∃ g, g = w13.heap.size := ⟨_, rfl⟩
            obtain ⟨B5, hB5⟩ : ∃ g, g = w13 := ⟨_, rfl⟩
            have hbx : Bx B5 gl nilS nilS nilS [] [] [] W7 := by rw [hB5, hgl]; exact hbx
            rw [← hgl]
            rw [← hB5] at BK OW CR QR PF BW IF IC NUF NUC b
            have BX0 := Lib.hid hbx
            clear hW7 b hbx hgl hB5
            go_wp2
            go_loopg [26] FN (fun kx s26 wr => ∃ (k : Nat) (fv : Value) (fs1 : List Fct), s26 = .int .i64 (k : Int) ∧ k + kx = FN ∧ Bx B5 gl nilS nilS fv [] [] fs1 wr ∧ Hid (fs1 = (F'.take k).map (fctOf b)))
            case atStart => exact ⟨0, _, [], rfl, by omega, BX0.out, Lib.hid (by simp)⟩
            case round =>
              clear BX0
              obtain ⟨k, fv, fs1, rfl, hk, hM, HFT⟩ := hrel
              by_cases hlt : k < FN
              · obtain ⟨i, hi⟩ : ∃ i, F'[k]? = some i := at_lt (by rw [← HFN.out]; exact hlt)
                obtain ⟨⟨i0, i1⟩, _⟩ := mem_aF.1 (SUB.out.mf i (List.mem_of_getElem? hi))
                rw [ENF.out] at i1
                have hnm := NUF.out.deep hM.b
                obtain ⟨fb, fo, hFA, hfb, f0⟩ := hnm.at hi
                subst hFA
                have hpv : k = 0 ∨ ∃ (k' : Nat) (j' : Int), k = k' + 1 ∧ wr.cell? ⟨fb, fo + k', none⟩ = some (.int .i64 j') ∧ j' < i := by
                  cases k with
                  | zero => exact .inl rfl
                  | succ k' =>
                    obtain ⟨j', hj'⟩ : ∃ i, F'[k']? = some i := at_lt (by rw [← HFN.out]; omega)
                    obtain ⟨_, _, hq, _, f1⟩ := hnm.at hj'
                    cases hq
                    obtain ⟨h1, h2⟩ := List.getElem?_eq_some_iff.1 hi
                    obtain ⟨h3, h4⟩ := List.getElem?_eq_some_iff.1 hj'
                    have := List.pairwise_iff_getElem.1 SUB.out.uf k' (k' + 1) h3 h1 (by omega)
                    exact .inr ⟨k', j', rfl, f1, by rw [← h2, ← h4]; exact this⟩
                obtain ⟨ii, hii⟩ : ∃ ii : Nat, i.toNat = ii := ⟨_, rfl⟩
                rw [hii] at i1
                have hieq : i = (ii : Int) := by omega
                obtain ⟨y, hy⟩ : ∃ y, b.fct[ii]? = some y := at_lt (by rw [ENF.out]; exact i1)
                have hfy : fctOf b i = y := by unfold fctOf; rw [hii, hy]; rfl
                have hec := (OW.out.step hM.b).f
                obtain ⟨gE, hG1, gEl, hcell⟩ := own_elem fctL_len (by rw [ENF.out]; rw [ENF.out] at hec; exact hec) hy
                subst hG1
                have e0 := hcell 0 _ rfl
                have e1 := hcell 1 _ rfl
                have e2 := hcell 2 _ rfl
                have e3 := hcell 3 _ rfl
                have e4 := hcell 4 _ rfl
                have e5 := hcell 5 _ rfl
                rw [Nat.add_zero] at e0
                have xr := CR.out.step hM.b
                have xe2 := xr.at (i := 2) rfl
                obtain ⟨FVA, fvc, rfl⟩ := own_len hM.o.f
                obtain ⟨K, hK⟩ : ∃ K, K = fs1.length := ⟨_, rfl⟩
                have HKK := Lib.hid hK.symm
                have hfl : fs1.length ≤ 8 := by
                  rw [HFT.out, List.length_map, List.length_take]
                  omega
                have g2 := hM.r.at (i := 2) rfl
                rw [← hK] at hfl g2
                obtain ⟨ft, fy, fa, fb_, fc, fd⟩ := y
                try dsimp only at e0 e1 e2 e3 e4 e5
                have hnx : (F'.take (k + 1)).map (fctOf b) = (F'.take k).map (fctOf b) ++ [(⟨ft, fy, fa, fb_, fc, fd⟩ : Fct)] := by rw [List.take_add_one, hi, List.map_append, ← hfy]; rfl
                have kFi : (k : Int) < (FN : Int) := by omega
                have hiN : i < (NF : Int) := by omega
                have hi0 : (0 : Int) ≤ i := by omega
                have HIE := Lib.hid hieq
                clear hieq
                have HNX := Lib.hid hnx; have MM := Lib.hid hM; have HCELL := Lib.hid (And.intro e0 (And.intro e1 (And.intro e2 (And.intro e3 (And.intro e4 e5)))))
                have G2 := Lib.hid g2; have F0 := Lib.hid f0
                clear hnx hM hnm hi hy hfy hec hcell hK xr e0 e1 e2 e3 e4 e5 g2 hii
                go_upto_region 27 with (fail)
                go_cut [147] (fun s W => s = .bool false ∧ Below wr.heap.size wr W)
                case first => as_aux_lemma =>
                  have in0 : ¬ i < 0 := by omega
                  have inx : ¬ (NF : Int) ≤ i := by omega
                  go_region_held3 (fun W => (W.cell? ⟨fb, fo + k, none⟩ = some (.int .i64 i) ∧ W.cell? ⟨gc, 2, none⟩ = some (.slice (some ⟨gE, 0, none⟩) NF c3))) (first | exact ⟨f0, xe2⟩ | fail) (fail)
                  all_goals go_wp2_with fail
                  all_goals go_meet
                  all_goals (case rel => exact ⟨by first | rfl | (simp; omega), (Below.refl _ _).drew⟩)
                case rest =>
                  obtain ⟨rfl, bc⟩ := hcut
                  have hii : i = (ii : Int) := HIE.out
                  subst hii
                  have e0 := HCELL.out.1; have e1 := HCELL.out.2.1; have e2 := HCELL.out.2.2.1; have e3 := HCELL.out.2.2.2.1; have e4 := HCELL.out.2.2.2.2.1; have e5 := HCELL.out.2.2.2.2.2
                  have g2 := G2.out; have f0' := F0.out; have cc2 := xe2
                  have iiN : (ii : Int) < (NF : Int) := by omega
                  clear hpv f0 xe2
                  obtain ⟨P7, hP7⟩ : ∃ P : World → Prop, P = fun W => Below wr.heap.size wr W := ⟨_, rfl⟩
                  have gg : P7 wc.drew := by rw [hP7]; exact bc.drew
                  have kk : ∀ W, P7 W → (Hid (P7 W) ∧ W.cell? ⟨gl, 2, none⟩ = some (.slice FVA K fvc) ∧ W.cell? ⟨gc, 2, none⟩ = some (.slice (some ⟨gE, 0, none⟩) NF c3) ∧ W.cell? ⟨fb, fo + k, none⟩ = some (.int .i64 (ii : Int)) ∧ W.cell? ⟨gE, ii * 6, none⟩ = some (.int .i64 ft) ∧ W.cell? ⟨gE, ii * 6 + 1, none⟩ = some (.int .i64 fy) ∧ W.cell? ⟨gE, ii * 6 + 2, none⟩ = some (.int .i64 fa) ∧ W.cell? ⟨gE, ii * 6 + 3, none⟩ = some (.int .i64 fb_) ∧ W.cell? ⟨gE, ii * 6 + 4, none⟩ = some (.int .i64 fc) ∧ W.cell? ⟨gE, ii * 6 + 5, none⟩ = some (.int .i64 fd)) := fun W h => by
                    have h' := h
                    rw [hP7] at h'
                    exact ⟨Lib.hid h, cell_of h' g2 (World.block_lt_of_cell? _ _ g2), cell_of h' cc2 (World.block_lt_of_cell? _ _ cc2), cell_of h' f0' (World.block_lt_of_cell? _ _ f0'), cell_of h' e0 (World.block_lt_of_cell? _ _ e0), cell_of h' e1 (World.block_lt_of_cell? _ _ e1), cell_of h' e2 (World.block_lt_of_cell? _ _ e2), cell_of h' e3 (World.block_lt_of_cell? _ _ e3), cell_of h' e4 (World.block_lt_of_cell? _ _ e4), cell_of h' e5 (World.block_lt_of_cell? _ _ e5)⟩
                  have sp : ∀ W X, P7 W → Below W.heap.size W X → P7 X := fun W X h hb => by
                    rw [hP7] at h ⊢
                    exact below_step h hb
                  have GG := Lib.hid gg; have KK := Lib.hid kk; have SP := Lib.hid sp; have HP7 := Lib.hid hP7
                  clear gg kk sp hP7 g2 cc2 f0' e0 e1 e2 e3 e4 e5
                  go_upto_region 29 with (fail)
                  refine wp_region_held_head (S := (fun W => (Hid (P7 W) ∧ W.cell? ⟨gl, 2, none⟩ = some (.slice FVA K fvc) ∧ W.cell? ⟨gc, 2, none⟩ = some (.slice (some ⟨gE, 0, none⟩) NF c3) ∧ W.cell? ⟨fb, fo + k, none⟩ = some (.int .i64 (ii : Int)) ∧ W.cell? ⟨gE, ii * 6, none⟩ = some (.int .i64 ft) ∧ W.cell? ⟨gE, ii * 6 + 1, none⟩ = some (.int .i64 fy) ∧ W.cell? ⟨gE, ii * 6 + 2, none⟩ = some (.int .i64 fa) ∧ W.cell? ⟨gE, ii * 6 + 3, none⟩ = some (.int .i64 fb_) ∧ W.cell? ⟨gE, ii * 6 + 4, none⟩ = some (.int .i64 fc) ∧ W.cell? ⟨gE, ii * 6 + 5, none⟩ = some (.int .i64 fd)))) 11 (by kernel_rfl) (by kernel_rfl) ?_ (fun hHeld => ?_)
                  · exact KK.out _ GG.out
                  simp only [List.take_succ_cons, List.take_zero, List.drop_succ_cons, List.drop_zero]
                  refine wpAnyH_take (i := 0) (oi := ⟨_, _, _, _, _, _⟩) (v := ?_) rfl (by kernel_rfl) (by kernel_rfl) (by kernel_rfl) (fun _ _ _ h => h) (Or.inl ⟨by rfl, ?_⟩) (by assumption) ?_
                  rotate_left 1
                  focus (intro w hSw; (try dsimp only at hSw); go_simp; (try with_reducible rfl))
                  (try simp only [Act.put, List.setIfInBounds_toArray, List.set_cons_zero, List.set_cons_succ])
                  refine wpAnyH_take (i := 1) (oi := ⟨_, _, _, _, _, _⟩) (v := ?_) rfl (by kernel_rfl) (by kernel_rfl) (by kernel_rfl) (fun _ _ _ h => h) (Or.inl ⟨by rfl, ?_⟩) (by assumption) ?_
                  rotate_left 1
                  focus (intro w hSw; (try dsimp only at hSw); go_simp; (try with_reducible rfl))
                  (try simp only [Act.put, List.setIfInBounds_toArray, List.set_cons_zero, List.set_cons_succ])
                  refine wpAnyH_take (i := 2) (oi := ⟨_, _, _, _, _, _⟩) (v := ?_) rfl (by kernel_rfl) (by kernel_rfl) (by kernel_rfl) (fun _ _ _ h => h) (Or.inl ⟨by rfl, ?_⟩) (by assumption) ?_
                  rotate_left 1
                  focus (intro w hSw; (try dsimp only at hSw); go_simp; (try with_reducible rfl))
                  (try simp only [Act.put, List.setIfInBounds_toArray, List.set_cons_zero, List.set_cons_succ])
                  refine wpAnyH_take (i := 3) (oi := ⟨_, _, _, _, _, _⟩) (v := ?_) rfl (by kernel_rfl) (by kernel_rfl) (by kernel_rfl) (fun _ _ _ h => h) (Or.inl ⟨by rfl, ?_⟩) (by assumption) ?_
                  rotate_left 1
                  focus (intro w hSw; (try dsimp only at hSw); go_simp; (try with_reducible rfl))
                  (try simp only [Act.put, List.setIfInBounds_toArray, List.set_cons_zero, List.set_cons_succ])
                  refine wpAnyH_take (i := 4) (oi := ⟨_, _, _, _, _, _⟩) (v := ?_) rfl (by kernel_rfl) (by kernel_rfl) (by kernel_rfl) (fun _ _ _ h => h) (Or.inl ⟨by rfl, ?_⟩) (by assumption) ?_
                  rotate_left 1
                  focus (intro w hSw; (try dsimp only at hSw); go_simp; (try with_reducible rfl))
                  (try simp only [Act.put, List.setIfInBounds_toArray, List.set_cons_zero, List.set_cons_succ])
                  refine wpAnyH_take (i := 5) (oi := ⟨_, _, _, _, _, _⟩) (v := ?_) rfl (by kernel_rfl) (by kernel_rfl) (by kernel_rfl) (fun _ _ _ h => h) (Or.inl ⟨by rfl, ?_⟩) (by assumption) ?_
                  rotate_left 1
                  focus (intro w hSw; (try dsimp only at hSw); go_simp; (try with_reducible rfl))
                  (try simp only [Act.put, List.setIfInBounds_toArray, List.set_cons_zero, List.set_cons_succ])
                  refine wpAnyH_take (i := 6) (oi := ⟨_, _, _, _, _, _⟩) (v := ?_) rfl (by kernel_rfl) (by kernel_rfl) (by kernel_rfl) (fun _ _ _ h => h) (Or.inl ⟨by rfl, ?_⟩) (by assumption) ?_
                  rotate_left 1
                  focus (intro w hSw; (try dsimp only at hSw); go_simp; (try with_reducible rfl))
                  (try simp only [Act.put, List.setIfInBounds_toArray, List.set_cons_zero, List.set_cons_succ])
                  refine wpAnyH_take (i := 7) (oi := ⟨_, _, _, _, _, _⟩) (v := ?_) rfl (by kernel_rfl) (by kernel_rfl) (by kernel_rfl) (fun _ _ _ h => h) (Or.inl ⟨by rfl, ?_⟩) (by assumption) ?_
                  rotate_left 1
                  focus (intro w hSw; (try dsimp only at hSw); go_simp; (try with_reducible rfl))
                  (try simp only [Act.put, List.setIfInBounds_toArray, List.set_cons_zero, List.set_cons_succ])
                  refine wpAnyH_take (i := 8) (oi := ⟨_, _, _, _, _, _⟩) (v := ?_) rfl (by kernel_rfl) (by kernel_rfl) (by kernel_rfl) (fun _ _ _ h => h) (Or.inl ⟨by rfl, ?_⟩) (by assumption) ?_
                  rotate_left 1
                  focus (intro w hSw; (try dsimp only at hSw); go_simp; (try with_reducible rfl))
                  (try simp only [Act.put, List.setIfInBounds_toArray, List.set_cons_zero, List.set_cons_succ])
                  refine wpAnyH_take (i := 9) (oi := ⟨_, _, _, _, _, _⟩) (v := ?_) rfl (by kernel_rfl) (by kernel_rfl) (by kernel_rfl) (fun _ _ _ h => h) (Or.inl ⟨by rfl, ?_⟩) (by assumption) ?_
                  rotate_left 1
                  focus (intro w hSw; (try dsimp only at hSw); go_simp; (try with_reducible rfl))
                  (try simp only [Act.put, List.setIfInBounds_toArray, List.set_cons_zero, List.set_cons_succ])
                  refine wpAnyH_ready (rs := [10]) (by kernel_rfl) (by simp) ?_
                  refine AllReadyH.cons (o := ⟨_, _, _, _, _, _⟩) rfl (fun K hK => ?_) ?_
                  · go_simp
                    refine hK.out _ _ ?_ (fun hHeld => ?_)
                    · exact KK.out _ (SP.out _ _ GG.out (below_alloc _ _))
                    clear hK K
                    (try simp only [Act.put, List.setIfInBounds_toArray, List.set_cons_zero, List.set_cons_succ])
                    refine wpAnyH_done (by kernel_rfl) ?_ _
                    simp only [Exit.then]
                    obtain ⟨W9, hW9⟩ : ∃ W9, W9 = wc.drew.alloc (.cells (fctL (⟨ft, fy, fa, fb_, fc, fd⟩ : Fct)).toArray 57) := ⟨_, rfl⟩
                    change wpList _ _ _ _ _ (wc.drew.alloc (.cells (fctL (⟨ft, fy, fa, fb_, fc, fd⟩ : Fct)).toArray 57))
                    rw [← hW9]
                    have q7 : P7 W9 := by rw [hW9]; exact SP.out _ _ GG.out (below_alloc _ _)
                    have z1 := (KK.out _ q7).2.1
                    rw [HP7.out] at q7
                    have m7 := MM.out.step q7
                    have hnew := new_at wc.drew 57 (fctL (⟨ft, fy, fa, fb_, fc, fd⟩ : Fct))
                    rw [← hW9] at hnew
                    have hbase := m7.b.size
                    have hown := m7.o.f
                    rw [HKK.out] at hown
                    have M7 := Lib.hid m7; have HNEW := Lib.hid hnew; have HOWN := Lib.hid hown
                    clear hW9 q7 m7 hnew hown
                    go_wp2_with (at_builtin; refine wpList_append_own _ rfl _ _ 32 rfl B5.heap.size 57 if_ (.agg #[.int .i64 0, .int .i64 0, .int .i64 0, .int .i64 0, .int .i64 0, .int .i64 0]) 6 48 Try.underlying32 INF.out.2.2.1 INF.out.2.2.2.1 INF.out.2.2.2.2.1 INF.out.2.2.2.2.2 rfl (by decide) _ _ _ rfl HOWN.out ⟨wc.heap.size, 0, none⟩ 1 1 (fctL (⟨ft, fy, fa, fb_, fc, fd⟩ : Fct)) rfl rfl HNEW.out (fctL_one _) (by unfold maxLen; omega) (by omega) hbase ?_; intro v' w8 own8 hg8 _; obtain ⟨g', cap', rfl⟩ := ownsRow_succ own8; rw [← HKK.out] at own8; have q8 := Bx.addF (p := (⟨ft, fy, fa, fb_, fc, fd⟩ : Fct)) M7.out (by rw [← HKK.out] at hg8; exact hg8) own8; rw [HKK.out] at q8; obtain ⟨hc8, m8⟩ := q8; obtain ⟨_, _, _, u3, u4, u5⟩ := hc8.three; have N8 := Lib.hid m8; clear own8 hg8 m8 hc8)
                    go_roundg (FN - (k + 1))
                    case measure => omega
                    case rel => exact ⟨k + 1, _, _, by go_num, by omega, N8.out, Lib.hid (by rw [HNX.out, HFT.out])⟩
                  exact AllReadyH.nil
              · obtain rfl : k = FN := by omega
                obtain ⟨FVA, fvc, rfl⟩ := own_len hM.o.f
                have hff : fs1 = F'.map (fctOf b) := by rw [HFT.out, List.take_of_length_le (by rw [← HFN.out]; exact Nat.le_refl _)]
                obtain ⟨N1, hN1⟩ : ∃ N, N = fs1.length := ⟨_, rfl⟩
                have MM := Lib.hid hM; have HFF := Lib.hid hff; have HN1 := Lib.hid hN1
                rw [← hN1] at MM
                clear hM hff hN1 HFT hlt hk
                go_wp2
                go_loopg [27] CN (fun kx s27 wr => ∃ (k : Nat) (cv : Value) (cs1 : List CV), s27 = .int .i64 (k : Int) ∧ k + kx = CN ∧ Bx B5 gl cv nilS (.slice FVA N1 fvc) cs1 [] fs1 wr ∧ Hid (cs1.map (·.1) = (Cl.take k).map (clsOf b)))
                case atStart => exact ⟨0, _, [], rfl, by omega, MM.out, Lib.hid (by simp)⟩
                case round =>
                  clear MM
                  obtain ⟨k, cv, cs1, rfl, hk, hM, HCT⟩ := hrel
                  by_cases hlt : k < CN
                  · obtain ⟨i, hi⟩ : ∃ i, Cl[k]? = some i := at_lt (by rw [← HCN.out]; exact hlt)
                    obtain ⟨⟨i0, i1⟩, _⟩ := mem_aC.1 (SUB.out.mc i (List.mem_of_getElem? hi))
                    rw [ENC.out] at i1
                    have hnm := NUC.out.deep hM.b
                    obtain ⟨fb, fo, hFA, hfb, f0⟩ := hnm.at hi
                    subst hFA
                    have hpv : k = 0 ∨ ∃ (k' : Nat) (j' : Int), k = k' + 1 ∧ wr.cell? ⟨fb, fo + k', none⟩ = some (.int .i64 j') ∧ j' < i := by
                      cases k with
                      | zero => exact .inl rfl
                      | succ k' =>
                        obtain ⟨j', hj'⟩ : ∃ i, Cl[k']? = some i := at_lt (by rw [← HCN.out]; omega)
                        obtain ⟨_, _, hq, _, f1⟩ := hnm.at hj'
                        cases hq
                        obtain ⟨h1, h2⟩ := List.getElem?_eq_some_iff.1 hi
                        obtain ⟨h3, h4⟩ := List.getElem?_eq_some_iff.1 hj'
                        have := List.pairwise_iff_getElem.1 SUB.out.uc k' (k' + 1) h3 h1 (by omega)
                        exact .inr ⟨k', j', rfl, f1, by rw [← h2, ← h4]; exact this⟩
                    obtain ⟨ii, hii⟩ : ∃ ii : Nat, i.toNat = ii := ⟨_, rfl⟩
                    rw [hii] at i1
                    have hieq : i = (ii : Int) := by omega
                    have csl : cs.length = NC := by have := congrArg List.length HCS.out; rw [List.length_map, ENC.out] at this; exact this
                    obtain ⟨⟨y, ynv, ybv⟩, hp⟩ : ∃ p, cs[ii]? = some p := at_lt (by rw [csl]; exact i1)
                    have hy : b.cls[ii]? = some y := by rw [← HCS.out, List.getElem?_map, hp]; rfl
                    have hfy : clsOf b i = y := by unfold clsOf; rw [hii, hy]; rfl
                    have hoe := (OW.out.step hM.b)
                    obtain ⟨gE, hG1, gEl, hcell⟩ := own_elem clsL_len (by rw [csl]; have := hoe.c; rw [csl] at this; exact this) hp
                    subst hG1
                    obtain ⟨NA, nl, nc_, rfl⟩ := own_form (hoe.n _ (List.mem_of_getElem? hp)).1
                    obtain ⟨BA, bl, bc_, rfl⟩ := own_form (hoe.n _ (List.mem_of_getElem? hp)).2
                    have e0 := hcell 0 _ rfl
                    have e1 := hcell 1 _ rfl
                    have e2 := hcell 2 _ rfl
                    have e3 := hcell 3 _ rfl
                    have e4 := hcell 4 _ rfl
                    have e5 := hcell 5 _ rfl
                    rw [Nat.add_zero] at e0
                    have irn := fun (W : World) (hb : Below wr.heap.size wr W) => And.intro ((hoe.n _ (List.mem_of_getElem? hp)).1.step hb) ((hoe.n _ (List.mem_of_getElem? hp)).2.step hb)
                    have xr := CR.out.step hM.b
                    have xe2 := xr.at (i := 0) rfl
                    obtain ⟨CVA, cvc, rfl⟩ := own_len hM.o.c
                    obtain ⟨K, hK⟩ : ∃ K, K = cs1.length := ⟨_, rfl⟩
                    have HKK := Lib.hid hK.symm
                    have hfl : cs1.length ≤ 8 := by
                      have := congrArg List.length HCT.out
                      rw [List.length_map, List.length_map, List.length_take] at this
                      omega
                    have g2 := hM.r.at (i := 0) rfl
                    rw [← hK] at hfl g2
                    obtain ⟨pub, sf, se, needs, bars, gives⟩ := y
                    dsimp only at e0 e1 e2 e3 e4 e5 irn
                    have hnx : (Cl.take (k + 1)).map (clsOf b) = (Cl.take k).map (clsOf b) ++ [⟨pub, sf, se, needs, bars, gives⟩] := by rw [List.take_add_one, hi, List.map_append, ← hfy]; rfl
                    have kFi : (k : Int) < (CN : Int) := by omega
                    have hiN : i < (NC : Int) := by omega
                    have hi0 : (0 : Int) ≤ i := by omega
                    have HIE := Lib.hid hieq
                    have HNX := Lib.hid hnx; have MM := Lib.hid hM; have IRN := Lib.hid irn; have HCELL := Lib.hid (And.intro e0 (And.intro e1 (And.intro e2 (And.intro e3 (And.intro e4 e5)))))
                    have G2 := Lib.hid g2; have F0 := Lib.hid f0
                    clear hieq hnx hM hnm hi hy hp hfy hoe hcell hK xr e0 e1 e2 e3 e4 e5 g2 hii irn csl
                    go_upto_region 33 with (fail)
                    go_cut [181] (fun s W => s = .bool false ∧ Below wr.heap.size wr W)
                    case first => as_aux_lemma =>
                      have in0 : ¬ i < 0 := by omega
                      have inx : ¬ (NC : Int) ≤ i := by omega
                      go_region_held3 (fun W => (W.cell? ⟨fb, fo + k, none⟩ = some (.int .i64 i) ∧ W.cell? ⟨gc, 0, none⟩ = some (.slice (some ⟨gE, 0, none⟩) NC c1))) (first | exact ⟨f0, xe2⟩ | fail) (fail)
                      all_goals go_wp2_with fail
                      all_goals go_meet
                      all_goals (case rel => exact ⟨by first | rfl | (simp; omega), (Below.refl _ _).drew⟩)
                    case rest =>
                      obtain ⟨rfl, bc⟩ := hcut
                      have hii : i = (ii : Int) := HIE.out
                      subst hii
                      have e0 := HCELL.out.1; have e1 := HCELL.out.2.1; have e2 := HCELL.out.2.2.1; have e3 := HCELL.out.2.2.2.1; have e4 := HCELL.out.2.2.2.2.1; have e5 := HCELL.out.2.2.2.2.2
                      have g2 := G2.out; have f0' := F0.out; have cc2 := xe2
                      have iiN : (ii : Int) < (NC : Int) := by omega
                      clear hpv f0 xe2
                      obtain ⟨P7, hP7⟩ : ∃ P : World → Prop, P = fun W => Below wr.heap.size wr W := ⟨_, rfl⟩
                      have gg : P7 wc.drew := by rw [hP7]; exact bc.drew
                      have kk : ∀ W, P7 W → (Hid (P7 W) ∧ W.cell? ⟨gl, 0, none⟩ = some (.slice CVA K cvc) ∧ W.cell? ⟨gc, 0, none⟩ = some (.slice (some ⟨gE, 0, none⟩) NC c1) ∧ W.cell? ⟨fb, fo + k, none⟩ = some (.int .i64 (ii : Int)) ∧ W.cell? ⟨gE, ii * 6, none⟩ = some (.int .i64 pub) ∧ W.cell? ⟨gE, ii * 6 + 1, none⟩ = some (.int .i64 sf) ∧ W.cell? ⟨gE, ii * 6 + 2, none⟩ = some (.int .i64 se) ∧ W.cell? ⟨gE, ii * 6 + 3, none⟩ = some (.slice NA nl nc_) ∧ W.cell? ⟨gE, ii * 6 + 4, none⟩ = some (.slice BA bl bc_) ∧ W.cell? ⟨gE, ii * 6 + 5, none⟩ = some (.int .i64 gives)) := fun W h => by
                        have h' := h
                        rw [hP7] at h'
                        exact ⟨Lib.hid h, cell_of h' g2 (World.block_lt_of_cell? _ _ g2), cell_of h' cc2 (World.block_lt_of_cell? _ _ cc2), cell_of h' f0' (World.block_lt_of_cell? _ _ f0'), cell_of h' e0 (World.block_lt_of_cell? _ _ e0), cell_of h' e1 (World.block_lt_of_cell? _ _ e1), cell_of h' e2 (World.block_lt_of_cell? _ _ e2), cell_of h' e3 (World.block_lt_of_cell? _ _ e3), cell_of h' e4 (World.block_lt_of_cell? _ _ e4), cell_of h' e5 (World.block_lt_of_cell? _ _ e5)⟩
                      have sp : ∀ W X, P7 W → Below W.heap.size W X → P7 X := fun W X h hb => by
                        rw [hP7] at h ⊢
                        exact below_step h hb
                      have GG := Lib.hid gg; have KK := Lib.hid kk; have SP := Lib.hid sp; have HP7 := Lib.hid hP7
                      clear gg kk sp hP7 g2 cc2 f0' e0 e1 e2 e3 e4 e5
                      go_upto_region 35 with (fail)
                      refine wp_region_held_head (S := (fun W => (Hid (P7 W) ∧ W.cell? ⟨gl, 0, none⟩ = some (.slice CVA K cvc) ∧ W.cell? ⟨gc, 0, none⟩ = some (.slice (some ⟨gE, 0, none⟩) NC c1) ∧ W.cell? ⟨fb, fo + k, none⟩ = some (.int .i64 (ii : Int)) ∧ W.cell? ⟨gE, ii * 6, none⟩ = some (.int .i64 pub) ∧ W.cell? ⟨gE, ii * 6 + 1, none⟩ = some (.int .i64 sf) ∧ W.cell? ⟨gE, ii * 6 + 2, none⟩ = some (.int .i64 se) ∧ W.cell? ⟨gE, ii * 6 + 3, none⟩ = some (.slice NA nl nc_) ∧ W.cell? ⟨gE, ii * 6 + 4, none⟩ = some (.slice BA bl bc_) ∧ W.cell? ⟨gE, ii * 6 + 5, none⟩ = some (.int .i64 gives)))) 11 (by kernel_rfl) (by kernel_rfl) ?_ (fun hHeld => ?_)
                      · exact KK.out _ GG.out
                      simp only [List.take_succ_cons, List.take_zero, List.drop_succ_cons, List.drop_zero]
                      refine wpAnyH_take (i := 0) (oi := ⟨_, _, _, _, _, _⟩) (v := ?_) rfl (by kernel_rfl) (by kernel_rfl) (by kernel_rfl) (fun _ _ _ h => h) (Or.inl ⟨by rfl, ?_⟩) (by assumption) ?_
                      rotate_left 1
                      focus (intro w hSw; (try dsimp only at hSw); go_simp; (try with_reducible rfl))
                      (try simp only [Act.put, List.setIfInBounds_toArray, List.set_cons_zero, List.set_cons_succ])
                      refine wpAnyH_take (i := 1) (oi := ⟨_, _, _, _, _, _⟩) (v := ?_) rfl (by kernel_rfl) (by kernel_rfl) (by kernel_rfl) (fun _ _ _ h => h) (Or.inl ⟨by rfl, ?_⟩) (by assumption) ?_
                      rotate_left 1
                      focus (intro w hSw; (try dsimp only at hSw); go_simp; (try with_reducible rfl))
                      (try simp only [Act.put, List.setIfInBounds_toArray, List.set_cons_zero, List.set_cons_succ])
                      refine wpAnyH_take (i := 2) (oi := ⟨_, _, _, _, _, _⟩) (v := ?_) rfl (by kernel_rfl) (by kernel_rfl) (by kernel_rfl) (fun _ _ _ h => h) (Or.inl ⟨by rfl, ?_⟩) (by assumption) ?_
                      rotate_left 1
                      focus (intro w hSw; (try dsimp only at hSw); go_simp; (try with_reducible rfl))
                      (try simp only [Act.put, List.setIfInBounds_toArray, List.set_cons_zero, List.set_cons_succ])
                      refine wpAnyH_take (i := 3) (oi := ⟨_, _, _, _, _, _⟩) (v := ?_) rfl (by kernel_rfl) (by kernel_rfl) (by kernel_rfl) (fun _ _ _ h => h) (Or.inl ⟨by rfl, ?_⟩) (by assumption) ?_
                      rotate_left 1
                      focus (intro w hSw; (try dsimp only at hSw); go_simp; (try with_reducible rfl))
                      (try simp only [Act.put, List.setIfInBounds_toArray, List.set_cons_zero, List.set_cons_succ])
                      refine wpAnyH_take (i := 4) (oi := ⟨_, _, _, _, _, _⟩) (v := ?_) rfl (by kernel_rfl) (by kernel_rfl) (by kernel_rfl) (fun _ _ _ h => h) (Or.inl ⟨by rfl, ?_⟩) (by assumption) ?_
                      rotate_left 1
                      focus (intro w hSw; (try dsimp only at hSw); go_simp; (try with_reducible rfl))
                      (try simp only [Act.put, List.setIfInBounds_toArray, List.set_cons_zero, List.set_cons_succ])
                      refine wpAnyH_take (i := 5) (oi := ⟨_, _, _, _, _, _⟩) (v := ?_) rfl (by kernel_rfl) (by kernel_rfl) (by kernel_rfl) (fun _ _ _ h => h) (Or.inl ⟨by rfl, ?_⟩) (by assumption) ?_
                      rotate_left 1
                      focus (intro w hSw; (try dsimp only at hSw); go_simp; (try with_reducible rfl))
                      (try simp only [Act.put, List.setIfInBounds_toArray, List.set_cons_zero, List.set_cons_succ])
                      refine wpAnyH_take (i := 6) (oi := ⟨_, _, _, _, _, _⟩) (v := ?_) rfl (by kernel_rfl) (by kernel_rfl) (by kernel_rfl) (fun _ _ _ h => h) (Or.inl ⟨by rfl, ?_⟩) (by assumption) ?_
                      rotate_left 1
                      focus (intro w hSw; (try dsimp only at hSw); go_simp; (try with_reducible rfl))
                      (try simp only [Act.put, List.setIfInBounds_toArray, List.set_cons_zero, List.set_cons_succ])
                      refine wpAnyH_take (i := 7) (oi := ⟨_, _, _, _, _, _⟩) (v := ?_) rfl (by kernel_rfl) (by kernel_rfl) (by kernel_rfl) (fun _ _ _ h => h) (Or.inl ⟨by rfl, ?_⟩) (by assumption) ?_
                      rotate_left 1
                      focus (intro w hSw; (try dsimp only at hSw); go_simp; (try with_reducible rfl))
                      (try simp only [Act.put, List.setIfInBounds_toArray, List.set_cons_zero, List.set_cons_succ])
                      refine wpAnyH_take (i := 8) (oi := ⟨_, _, _, _, _, _⟩) (v := ?_) rfl (by kernel_rfl) (by kernel_rfl) (by kernel_rfl) (fun _ _ _ h => h) (Or.inl ⟨by rfl, ?_⟩) (by assumption) ?_
                      rotate_left 1
                      focus (intro w hSw; (try dsimp only at hSw); go_simp; (try with_reducible rfl))
                      (try simp only [Act.put, List.setIfInBounds_toArray, List.set_cons_zero, List.set_cons_succ])
                      refine wpAnyH_take (i := 9) (oi := ⟨_, _, _, _, _, _⟩) (v := ?_) rfl (by kernel_rfl) (by kernel_rfl) (by kernel_rfl) (fun _ _ _ h => h) (Or.inl ⟨by rfl, ?_⟩) (by assumption) ?_
                      rotate_left 1
                      focus (intro w hSw; (try dsimp only at hSw); go_simp; (try with_reducible rfl))
                      (try simp only [Act.put, List.setIfInBounds_toArray, List.set_cons_zero, List.set_cons_succ])
                      refine wpAnyH_ready (rs := [10]) (by kernel_rfl) (by simp) ?_
                      refine AllReadyH.cons (o := ⟨_, _, _, _, _, _⟩) rfl (fun K hK => ?_) ?_
                      · go_simp
                        refine hK.out _ _ ?_ (fun hHeld => ?_)
                        · exact KK.out _ (SP.out _ _ GG.out (below_alloc _ _))
                        clear hK K
                        (try simp only [Act.put, List.setIfInBounds_toArray, List.set_cons_zero, List.set_cons_succ])
                        refine wpAnyH_done (by kernel_rfl) ?_ _
                        simp only [Exit.then]
                        obtain ⟨W9, hW9⟩ : ∃ W9, W9 = wc.drew.alloc (.cells (clsL ((⟨pub, sf, se, needs, bars, gives⟩, .slice NA nl nc_, .slice BA bl bc_) : CV)).toArray 51) := ⟨_, rfl⟩
                        change wpList _ _ _ _ _ (wc.drew.alloc (.cells (clsL ((⟨pub, sf, se, needs, bars, gives⟩, .slice NA nl nc_, .slice BA bl bc_) : CV)).toArray 51))
                        rw [← hW9]
                        have q7 : P7 W9 := by rw [hW9]; exact SP.out _ _ GG.out (below_alloc _ _)
                        have z1 := (KK.out _ q7).2.1
                        rw [HP7.out] at q7
                        have m7 := MM.out.step q7
                        have hnew := new_at wc.drew 51 (clsL ((⟨pub, sf, se, needs, bars, gives⟩, .slice NA nl nc_, .slice BA bl bc_) : CV))
                        rw [← hW9] at hnew
                        have hp := IRN.out _ q7
                        have HPP := Lib.hid hp
                        clear hp
                        have hbase := m7.b.size
                        have hown := m7.o.c
                        rw [HKK.out] at hown
                        have M7 := Lib.hid m7; have HNEW := Lib.hid hnew; have HOWN := Lib.hid hown
                        clear hW9 q7 m7 hnew hown
                        go_wp2_with (at_builtin; refine wpList_append_own _ rfl _ _ 30 rfl B5.heap.size 51 ic (.agg #[.int .i64 0, .int .i64 0, .int .i64 0, .slice none 0 0, .slice none 0 0, .int .i64 0]) 6 80 Try.underlying30 INF.out.1.1 INF.out.1.2.1 INF.out.1.2.2.1 INF.out.1.2.2.2 rfl (by decide) _ _ _ rfl HOWN.out ⟨wc.heap.size, 0, none⟩ 1 1 (clsL ((⟨pub, sf, se, needs, bars, gives⟩, .slice NA nl nc_, .slice BA bl bc_) : CV)) rfl rfl HNEW.out (clsL_one _ rfl rfl) (by unfold maxLen; omega) (by omega) hbase ?_; intro v' w8 own8 hg8 _; obtain ⟨g', cap', rfl⟩ := ownsRow_succ own8; rw [← HKK.out] at own8; have q8 := Bx.addC (p := ((⟨pub, sf, se, needs, bars, gives⟩, .slice NA nl nc_, .slice BA bl bc_) : CV)) M7.out HPP.out (by rw [← HKK.out] at hg8; exact hg8) own8; rw [HKK.out] at q8; obtain ⟨hc8, m8⟩ := q8; obtain ⟨_, _, _, u3, u4, u5⟩ := hc8.three; have N8 := Lib.hid m8; clear own8 hg8 m8 hc8)
                        go_roundg (CN - (k + 1))
                        case measure => omega
                        case rel => exact ⟨k + 1, _, _, by go_num, by omega, N8.out, Lib.hid (by rw [HNX.out, List.map_append, HCT.out]; rfl)⟩
                      exact AllReadyH.nil
                  · obtain rfl : CN = k := by omega
                    obtain ⟨CVA, cvc, rfl⟩ := own_len hM.o.c
                    have hcf : cs1.map (·.1) = Cl.map (clsOf b) := by rw [HCT.out, List.take_of_length_le (by rw [← HCN.out]; exact Nat.le_refl _)]
                    obtain ⟨N2, hN2⟩ : ∃ N, N = cs1.length := ⟨_, rfl⟩
                    have MM := Lib.hid hM; have HCF := Lib.hid hcf; have HN2 := Lib.hid hN2
                    rw [← hN2] at MM
                    clear hM hcf hN2 HCT hlt hk
                    go_wp2
                    go_loopg [28, 29] NR (fun kx s28 s29 wr => ∃ (k : Nat) (rv : Value) (rs1 : List Rpl), s28 = .int .i64 (k : Int) ∧ k + kx = NR ∧ Bx B5 gl (.slice CVA N2 cvc) rv (.slice FVA N1 fvc) cs1 rs1 fs1 wr ∧ Hid (rs1 = (b.rpl.take k).filterMap (lessR Cl)))
                    case atStart => exact ⟨0, _, [], rfl, by omega, MM.out, Lib.hid (by simp)⟩
                    case round =>
                      clear MM
                      obtain ⟨k, rv, rs1, rfl, hk, hM, HRT⟩ := hrel
                      have xe1 := (CR.out.step hM.b).at (i := 1) rfl
                      by_cases hlt : k < NR
                      · as_aux_lemma =>
                        obtain ⟨y, hy⟩ : ∃ p, b.rpl[k]? = some p := at_lt (by rw [ENR.out]; exact hlt)
                        obtain ⟨rc, rp, rf⟩ := y
                        have hrl : rs1.length ≤ 3 := by
                          rw [HRT.out]
                          refine Nat.le_trans (List.length_filterMap_le ..) ?_
                          rw [List.length_take]
                          omega
                        obtain ⟨p, hp⟩ : ∃ p, p = posI Cl rc := ⟨_, rfl⟩
                        have hnx : (b.rpl.take (k + 1)).filterMap (lessR Cl) = (b.rpl.take k).filterMap (lessR Cl) ++ (if 0 ≤ p then [⟨p, rp, rf⟩] else []) := by
                          rw [List.take_add_one, hy, List.filterMap_append]
                          congr 1
                          show List.filterMap (lessR Cl) [⟨rc, rp, rf⟩] = _
                          rw [List.filterMap_cons]
                          unfold lessR
                          dsimp only
                          rw [← hp]
                          by_cases h0 : 0 ≤ p
                          · rw [if_pos h0, if_pos h0]; rfl
                          · rw [if_neg h0, if_neg h0]; rfl
                        have hpl : p < (CN : Int) := by
                          by_cases h0 : 0 ≤ p
                          · obtain ⟨z, hz, e⟩ := pos_mem SUB.out.uc (pos_in (by rw [← hp]; exact h0))
                            have := (List.getElem?_eq_some_iff.1 hz).1
                            rw [hp, e, HCN.out]; omega
                          · omega
                        have hpi : ∀ (j : Nat) (i : Int), Cl[j]? = some i → (i = rc ↔ p = (j : Int)) := fun j i hi => by
                          constructor
                          · rintro rfl; rw [hp]; exact pos_up SUB.out.uc hi
                          · intro h
                            obtain ⟨z, hz, e⟩ := pos_mem SUB.out.uc (pos_in (x := rc) (by rw [← hp, h]; omega))
                            have : z = j := by omega
                            subst this
                            rw [hi] at hz
                            exact Option.some.inj hz
                        have kFi : (k : Int) < (NR : Int) := by omega
                        have HNX := Lib.hid hnx; have MM := Lib.hid hM; have HPI := Lib.hid hpi; have HY := Lib.hid hy; have HPL := Lib.hid hpl; have HRL := Lib.hid hrl
                        obtain ⟨wb, hwb⟩ : ∃ z, z = wr := ⟨_, rfl⟩
                        clear hnx hM hpi hy hp hpl hrl
                        rw [← hwb] at MM xe1 ⊢
                        clear hwb wr
                        go_wp2
                        go_loopg [29] CN (fun kx s29 wr => ∃ (j : Nat) (rv2 : Value) (rs2 : List Rpl), s29 = .int .i64 (j : Int) ∧ j + kx = CN ∧ Bx B5 gl (.slice CVA N2 cvc) rv2 (.slice FVA N1 fvc) cs1 rs2 fs1 wr ∧ Hid (rs2 = rs1 ++ (if 0 ≤ p ∧ p < (j : Int) then [⟨p, rp, rf⟩] else [])))
                        case atStart => exact ⟨0, _, rs1, rfl, by omega, MM.out, Lib.hid (by rw [if_neg (by omega)]; simp)⟩
                        case round =>
                          clear MM xe1
                          obtain ⟨j, rv2, rs2, rfl, hj, hM, HR2⟩ := hrel
                          have xe2 := (CR.out.step hM.b).at (i := 1) rfl
                          by_cases hjl : j < CN
                          · obtain ⟨i, hi⟩ : ∃ i, Cl[j]? = some i := at_lt (by rw [← HCN.out]; exact hjl)
                            obtain ⟨fb, fo, hFA, hfb, f0⟩ := (NUC.out.deep hM.b).at hi
                            subst hFA
                            have hec := (OW.out.step hM.b).r
                            obtain ⟨gE, hG1, gEl, hcell⟩ := own_elem rplL_len (by rw [ENR.out]; rw [ENR.out] at hec; exact hec) HY.out
                            subst hG1
                            have e0 := hcell 0 _ rfl
                            have e1 := hcell 1 _ rfl
                            have e2 := hcell 2 _ rfl
                            rw [Nat.add_zero] at e0
                            dsimp only at e0 e1 e2
                            obtain ⟨RVA, rvc, rfl⟩ := own_len hM.o.r
                            obtain ⟨K, hK⟩ : ∃ K, K = rs2.length := ⟨_, rfl⟩
                            have HKK := Lib.hid hK.symm
                            have hfl : rs2.length ≤ 4 := by
                              rw [HR2.out, List.length_append]
                              have := HRL.out
                              split <;> simp <;> omega
                            have g2 := hM.r.at (i := 1) rfl
                            rw [← hK] at hfl g2
                            have jFi : (j : Int) < (CN : Int) := by omega
                            have hir := HPI.out j i hi
                            have MM := Lib.hid hM; have HIR := Lib.hid hir; have G2 := Lib.hid g2; have E1 := Lib.hid e1; have E2 := Lib.hid e2
                            clear hM hec hcell hK hi hir g2 e1 e2
                            go_upto_region 42 with (fail)
                            go_cut [218] (fun s W => s = .bool (decide (i = rc)) ∧ Below wr.heap.size wr W)
                            case first => as_aux_lemma =>
                              go_region_held3 (fun W => (W.cell? ⟨fb, fo + j, none⟩ = some (.int .i64 i) ∧ W.cell? ⟨gc, 1, none⟩ = some (.slice (some ⟨gE, 0, none⟩) NR c2) ∧ W.cell? ⟨gE, k * 3, none⟩ = some (.int .i64 rc))) (first | exact ⟨f0, xe2, e0⟩ | fail) (fail)
                              all_goals go_wp2_with fail
                              all_goals go_meet
                              all_goals (case rel => exact ⟨by first | rfl | simp, (Below.refl _ _).drew⟩)
                            case rest =>
                              obtain ⟨rfl, bc⟩ := hcut
                              by_cases hic : i = rc
                              · have hpj := HIR.out.1 hic
                                have hd1 : decide (i = rc) = true := decide_eq_true hic
                                rw [hd1]
                                have HPJ := Lib.hid hpj
                                clear hic hpj hd1
                                have cc2 := xe2; have g2 := G2.out; have e1 := E1.out; have e2 := E2.out; have hpv := True.intro
                                clear hpv f0 xe2
                                obtain ⟨P7, hP7⟩ : ∃ P : World → Prop, P = fun W => Below wr.heap.size wr W := ⟨_, rfl⟩
                                have gg : P7 wc.drew := by rw [hP7]; exact bc.drew
                                have kk : ∀ W, P7 W → (Hid (P7 W) ∧ W.cell? ⟨gl, 1, none⟩ = some (.slice RVA K rvc) ∧ W.cell? ⟨gc, 1, none⟩ = some (.slice (some ⟨gE, 0, none⟩) NR c2) ∧ W.cell? ⟨gE, k * 3 + 1, none⟩ = some (.int .i64 rp) ∧ W.cell? ⟨gE, k * 3 + 2, none⟩ = some (.int .i64 rf)) := fun W h => by
                                  have h' := h
                                  rw [hP7] at h'
                                  exact ⟨Lib.hid h, cell_of h' g2 (World.block_lt_of_cell? _ _ g2), cell_of h' cc2 (World.block_lt_of_cell? _ _ cc2), cell_of h' e1 (World.block_lt_of_cell? _ _ e1), cell_of h' e2 (World.block_lt_of_cell? _ _ e2)⟩
                                have sp : ∀ W X, P7 W → Below W.heap.size W X → P7 X := fun W X h hb => by
                                  rw [hP7] at h ⊢
                                  exact below_step h hb
                                have GG := Lib.hid gg; have KK := Lib.hid kk; have SP := Lib.hid sp; have HP7 := Lib.hid hP7
                                clear gg kk sp hP7 g2 cc2 e1 e2
                                go_upto_region 43 with (fail)
                                refine wp_region_held_head (S := (fun W => (Hid (P7 W) ∧ W.cell? ⟨gl, 1, none⟩ = some (.slice RVA K rvc) ∧ W.cell? ⟨gc, 1, none⟩ = some (.slice (some ⟨gE, 0, none⟩) NR c2) ∧ W.cell? ⟨gE, k * 3 + 1, none⟩ = some (.int .i64 rp) ∧ W.cell? ⟨gE, k * 3 + 2, none⟩ = some (.int .i64 rf)))) 17 (by kernel_rfl) (by kernel_rfl) ?_ (fun hHeld => ?_)
                                · exact KK.out _ GG.out
                                simp only [List.take_succ_cons, List.take_zero, List.drop_succ_cons, List.drop_zero]
                                refine wpAnyH_take (i := 0) (oi := ⟨_, _, _, _, _, _⟩) (v := ?_) rfl (by kernel_rfl) (by kernel_rfl) (by kernel_rfl) (fun _ _ _ h => h) (Or.inl ⟨by rfl, ?_⟩) (by assumption) ?_
                                rotate_left 1
                                focus (intro w hSw; (try dsimp only at hSw); go_simp; (try with_reducible rfl))
                                (try simp only [Act.put, List.setIfInBounds_toArray, List.set_cons_zero, List.set_cons_succ])
                                refine wpAnyH_take (i := 1) (oi := ⟨_, _, _, _, _, _⟩) (v := ?_) rfl (by kernel_rfl) (by kernel_rfl) (by kernel_rfl) (fun _ _ _ h => h) (Or.inl ⟨by rfl, ?_⟩) (by assumption) ?_
                                rotate_left 1
                                focus (intro w hSw; (try dsimp only at hSw); go_simp; (try with_reducible rfl))
                                (try simp only [Act.put, List.setIfInBounds_toArray, List.set_cons_zero, List.set_cons_succ])
                                refine wpAnyH_take (i := 2) (oi := ⟨_, _, _, _, _, _⟩) (v := ?_) rfl (by kernel_rfl) (by kernel_rfl) (by kernel_rfl) (fun _ _ _ h => h) (Or.inl ⟨by rfl, ?_⟩) (by assumption) ?_
                                rotate_left 1
                                focus (intro w hSw; (try dsimp only at hSw); go_simp; (try with_reducible rfl))
                                (try simp only [Act.put, List.setIfInBounds_toArray, List.set_cons_zero, List.set_cons_succ])
                                refine wpAnyH_take (i := 3) (oi := ⟨_, _, _, _, _, _⟩) (v := ?_) rfl (by kernel_rfl) (by kernel_rfl) (by kernel_rfl) (fun _ _ _ h => h) (Or.inl ⟨by rfl, ?_⟩) (by assumption) ?_
                                rotate_left 1
                                focus (intro w hSw; (try dsimp only at hSw); go_simp; (try with_reducible rfl))
                                (try simp only [Act.put, List.setIfInBounds_toArray, List.set_cons_zero, List.set_cons_succ])
                                refine wpAnyH_take (i := 4) (oi := ⟨_, _, _, _, _, _⟩) (v := ?_) rfl (by kernel_rfl) (by kernel_rfl) (by kernel_rfl) (fun _ _ _ h => h) (Or.inl ⟨by rfl, ?_⟩) (by assumption) ?_
                                rotate_left 1
                                focus (intro w hSw; (try dsimp only at hSw); go_simp; (try with_reducible rfl))
                                (try simp only [Act.put, List.setIfInBounds_toArray, List.set_cons_zero, List.set_cons_succ])
                                refine wpAnyH_take (i := 5) (oi := ⟨_, _, _, _, _, _⟩) (v := ?_) rfl (by kernel_rfl) (by kernel_rfl) (by kernel_rfl) (fun _ _ _ h => h) (Or.inl ⟨by rfl, ?_⟩) (by assumption) ?_
                                rotate_left 1
                                focus (intro w hSw; (try dsimp only at hSw); go_simp; (try with_reducible rfl))
                                (try simp only [Act.put, List.setIfInBounds_toArray, List.set_cons_zero, List.set_cons_succ])
                                refine wpAnyH_take (i := 6) (oi := ⟨_, _, _, _, _, _⟩) (v := ?_) rfl (by kernel_rfl) (by kernel_rfl) (by kernel_rfl) (fun _ _ _ h => h) (Or.inl ⟨by rfl, ?_⟩) (by assumption) ?_
                                rotate_left 1
                                focus (intro w hSw; (try dsimp only at hSw); go_simp; (try with_reducible rfl))
                                (try simp only [Act.put, List.setIfInBounds_toArray, List.set_cons_zero, List.set_cons_succ])
                                refine wpAnyH_take (i := 7) (oi := ⟨_, _, _, _, _, _⟩) (v := ?_) rfl (by kernel_rfl) (by kernel_rfl) (by kernel_rfl) (fun _ _ _ h => h) (Or.inl ⟨by rfl, ?_⟩) (by assumption) ?_
                                rotate_left 1
                                focus (intro w hSw; (try dsimp only at hSw); go_simp; (try with_reducible rfl))
                                (try simp only [Act.put, List.setIfInBounds_toArray, List.set_cons_zero, List.set_cons_succ])
                                refine wpAnyH_take (i := 8) (oi := ⟨_, _, _, _, _, _⟩) (v := ?_) rfl (by kernel_rfl) (by kernel_rfl) (by kernel_rfl) (fun _ _ _ h => h) (Or.inl ⟨by rfl, ?_⟩) (by assumption) ?_
                                rotate_left 1
                                focus (intro w hSw; (try dsimp only at hSw); go_simp; (try with_reducible rfl))
                                (try simp only [Act.put, List.setIfInBounds_toArray, List.set_cons_zero, List.set_cons_succ])
                                refine wpAnyH_take (i := 9) (oi := ⟨_, _, _, _, _, _⟩) (v := ?_) rfl (by kernel_rfl) (by kernel_rfl) (by kernel_rfl) (fun _ _ _ h => h) (Or.inl ⟨by rfl, ?_⟩) (by assumption) ?_
                                rotate_left 1
                                focus (intro w hSw; (try dsimp only at hSw); go_simp; (try with_reducible rfl))
                                (try simp only [Act.put, List.setIfInBounds_toArray, List.set_cons_zero, List.set_cons_succ])
                                refine wpAnyH_take (i := 10) (oi := ⟨_, _, _, _, _, _⟩) (v := ?_) rfl (by kernel_rfl) (by kernel_rfl) (by kernel_rfl) (fun _ _ _ h => h) (Or.inl ⟨by rfl, ?_⟩) (by assumption) ?_
                                rotate_left 1
                                focus (intro w hSw; (try dsimp only at hSw); go_simp; (try with_reducible rfl))
                                (try simp only [Act.put, List.setIfInBounds_toArray, List.set_cons_zero, List.set_cons_succ])
                                refine wpAnyH_take (i := 11) (oi := ⟨_, _, _, _, _, _⟩) (v := ?_) rfl (by kernel_rfl) (by kernel_rfl) (by kernel_rfl) (fun _ _ _ h => h) (Or.inl ⟨by rfl, ?_⟩) (by assumption) ?_
                                rotate_left 1
                                focus (intro w hSw; (try dsimp only at hSw); go_simp; (try with_reducible rfl))
                                (try simp only [Act.put, List.setIfInBounds_toArray, List.set_cons_zero, List.set_cons_succ])
                                refine wpAnyH_take (i := 12) (oi := ⟨_, _, _, _, _, _⟩) (v := ?_) rfl (by kernel_rfl) (by kernel_rfl) (by kernel_rfl) (fun _ _ _ h => h) (Or.inl ⟨by rfl, ?_⟩) (by assumption) ?_
                                rotate_left 1
                                focus (intro w hSw; (try dsimp only at hSw); go_simp; (try with_reducible rfl))
                                (try simp only [Act.put, List.setIfInBounds_toArray, List.set_cons_zero, List.set_cons_succ])
                                refine wpAnyH_take (i := 13) (oi := ⟨_, _, _, _, _, _⟩) (v := ?_) rfl (by kernel_rfl) (by kernel_rfl) (by kernel_rfl) (fun _ _ _ h => h) (Or.inl ⟨by rfl, ?_⟩) (by assumption) ?_
                                rotate_left 1
                                focus (intro w hSw; (try dsimp only at hSw); go_simp; (try with_reducible rfl))
                                (try simp only [Act.put, List.setIfInBounds_toArray, List.set_cons_zero, List.set_cons_succ])
                                refine wpAnyH_take (i := 14) (oi := ⟨_, _, _, _, _, _⟩) (v := ?_) rfl (by kernel_rfl) (by kernel_rfl) (by kernel_rfl) (fun _ _ _ h => h) (Or.inl ⟨by rfl, ?_⟩) (by assumption) ?_
                                rotate_left 1
                                focus (intro w hSw; (try dsimp only at hSw); go_simp; (try with_reducible rfl))
                                (try simp only [Act.put, List.setIfInBounds_toArray, List.set_cons_zero, List.set_cons_succ])
                                refine wpAnyH_take (i := 15) (oi := ⟨_, _, _, _, _, _⟩) (v := ?_) rfl (by kernel_rfl) (by kernel_rfl) (by kernel_rfl) (fun _ _ _ h => h) (Or.inl ⟨by rfl, ?_⟩) (by assumption) ?_
                                rotate_left 1
                                focus (intro w hSw; (try dsimp only at hSw); go_simp; (try with_reducible rfl))
                                (try simp only [Act.put, List.setIfInBounds_toArray, List.set_cons_zero, List.set_cons_succ])
                                refine wpAnyH_ready (rs := [16]) (by kernel_rfl) (by simp) ?_
                                refine AllReadyH.cons (o := ⟨_, _, _, _, _, _⟩) rfl (fun K hK => ?_) ?_
                                · go_simp
                                  refine hK.out _ _ ?_ (fun hHeld => ?_)
                                  · exact KK.out _ (SP.out _ _ GG.out (below_alloc _ _))
                                  clear hK K
                                  (try simp only [Act.put, List.setIfInBounds_toArray, List.set_cons_zero, List.set_cons_succ])
                                  refine wpAnyH_done (by kernel_rfl) ?_ _
                                  simp only [Exit.then]
                                  obtain ⟨W9, hW9⟩ : ∃ W9, W9 = wc.drew.alloc (.cells (rplL (⟨(j : Int), rp, rf⟩ : Rpl)).toArray 55) := ⟨_, rfl⟩
                                  change wpList _ _ _ _ _ (wc.drew.alloc (.cells (rplL (⟨(j : Int), rp, rf⟩ : Rpl)).toArray 55))
                                  rw [← hW9]
                                  have q7 : P7 W9 := by rw [hW9]; exact SP.out _ _ GG.out (below_alloc _ _)
                                  have z1 := (KK.out _ q7).2.1
                                  rw [HP7.out] at q7
                                  have m7 := MM.out.step q7
                                  have hnew := new_at wc.drew 55 (rplL (⟨(j : Int), rp, rf⟩ : Rpl))
                                  rw [← hW9] at hnew
                                  have hbase := m7.b.size
                                  have hown := m7.o.r
                                  rw [HKK.out] at hown
                                  have M7 := Lib.hid m7; have HNEW := Lib.hid hnew; have HOWN := Lib.hid hown
                                  clear hW9 q7 m7 hnew hown
                                  go_wp2_with (at_builtin; refine wpList_append_own _ rfl _ _ 31 rfl B5.heap.size 55 ir (.agg #[.int .i64 0, .int .i64 0, .int .i64 0]) 3 24 Try.underlying31 INF.out.2.1.1 INF.out.2.1.2.1 INF.out.2.1.2.2.1 INF.out.2.1.2.2.2 rfl (by decide) _ _ _ rfl HOWN.out ⟨wc.heap.size, 0, none⟩ 1 1 (rplL (⟨(j : Int), rp, rf⟩ : Rpl)) rfl rfl HNEW.out (rplL_one _) (by unfold maxLen; omega) (by omega) hbase ?_; intro v' w8 own8 hg8 _; obtain ⟨g', cap', rfl⟩ := ownsRow_succ own8; rw [← HKK.out] at own8; have q8 := Bx.addR (p := (⟨(j : Int), rp, rf⟩ : Rpl)) M7.out (by rw [← HKK.out] at hg8; exact hg8) own8; rw [HKK.out] at q8; obtain ⟨hc8, m8⟩ := q8; obtain ⟨_, _, _, u3, u4, u5⟩ := hc8.three; have N8 := Lib.hid m8; clear own8 hg8 m8 hc8)
                                  go_roundg (CN - (j + 1))
                                  case measure => omega
                                  case rel => exact ⟨j + 1, _, _, by go_num, by omega, N8.out, Lib.hid (by rw [HR2.out, if_neg (by rw [HPJ.out]; omega), if_pos (by rw [HPJ.out]; omega), List.append_nil, HPJ.out])⟩
                                exact AllReadyH.nil
                              · have hpj : ¬ p = (j : Int) := fun h => hic (HIR.out.2 h)
                                have hd1 : decide (i = rc) = false := decide_eq_false hic
                                rw [hd1]
                                have mc := Lib.hid (MM.out.step bc)
                                have HPJ := Lib.hid hpj
                                rw [HKK.out] at mc
                                clear hic hpj hd1 f0 e0 xe2
                                go_wp2
                                go_roundg (CN - (j + 1))
                                case measure => omega
                                case rel => exact ⟨j + 1, _, _, by go_num, by omega, mc.out, Lib.hid (by rw [HR2.out]; congr 1; by_cases h0 : 0 ≤ p ∧ p < (j : Int); rw [if_pos h0, if_pos (by omega)]; rw [if_neg h0, if_neg (by have := HPJ.out; omega)])⟩
                          · obtain rfl : j = CN := by omega
                            have hr3 : rs2 = (b.rpl.take (k + 1)).filterMap (lessR Cl) := by
                              rw [HNX.out, HR2.out, HRT.out]
                              congr 1
                              have := HPL.out
                              by_cases h0 : 0 ≤ p
                              · rw [if_pos h0, if_pos ⟨h0, this⟩]
                              · rw [if_neg h0, if_neg (fun h => h0 h.1)]
                            have HR3 := Lib.hid hr3; have MM := Lib.hid hM
                            clear hr3 hM xe2
                            go_wp2
                            go_roundg (NR - (k + 1))
                            case measure => omega
                            case rel => exact ⟨k + 1, _, _, by go_num, by omega, MM.out, HR3⟩
                      · as_aux_lemma =>
                        obtain rfl : NR = k := by omega
                        obtain ⟨RVA, rvc, rfl⟩ := own_len hM.o.r
                        have hrf : rs1 = b.rpl.filterMap (lessR Cl) := by rw [HRT.out, List.take_of_length_le (by rw [ENR.out]; exact Nat.le_refl _)]
                        obtain ⟨N3, hN3⟩ : ∃ N, N = rs1.length := ⟨_, rfl⟩
                        go_upto_region 44 with (fail)
                        have hbe : lessB b Cl F' = ⟨cs1.map (·.1), rs1, fs1⟩ := by rw [HCF.out, hrf, HFF.out]; rfl
                        have hbk := hM.bk hbe HLV.out
                        have wr_ := hM.r
                        rw [← hN3] at hbk wr_
                        have hb := hM.b
                        have WR := Lib.hid wr_; have BP := Lib.hid hbk
                        replace QR := Lib.hid (QR.out.step hb); replace CR := Lib.hid (CR.out.step hb); replace BK := Lib.hid (BK.out.deep hb); replace BW := Lib.hid (below_step BW.out hb)
                        clear hM hrf hbe hN3 hbk wr_ hb xe1 hk hlt HRT OW IF IC NUF NUC PF
                        obtain ⟨q0, q1, q2, q3⟩ := box4 QR.out
                        go_upto_region 45 with (fail)
                        obtain ⟨W20, hW20⟩ : ∃ W, W = wr.alloc (.cells #[.int .i64 th, .int .i64 sy, .int .i64 tm, .int .i64 kn] 37) := ⟨_, rfl⟩
                        rw [← hW20]
                        have b20 : Below wr.heap.size wr W20 := by rw [hW20]; exact below_alloc _ _
                        have r20 : Row W20 wr.heap.size 37 #[.int .i64 th, .int .i64 sy, .int .i64 tm, .int .i64 kn] := by rw [hW20]; exact Row.made _ _ _
                        clear hW20 q0 q1 q2 q3
                        have z1 := r20.at (i := 1) rfl; have y1 := r20.free 1
                        have B20 := Lib.hid b20; have R20 := Lib.hid r20
                        clear b20 r20
                        go_upto_region 46 with (go_at_call 16; (with_reducible refine (HPO.out _).mono ?_); rintro e_ wx ⟨rfl, hwx⟩; have hwx := hwx.symm; subst hwx)
                        obtain ⟨W21, hW21⟩ : ∃ W, W = W20.setCell ⟨wr.heap.size, 1, none⟩ (.int .i64 po) := ⟨_, rfl⟩
                        rw [← hW21]
                        have b : Below wr.heap.size wr W21 := by rw [hW21]; exact B20.out.setCell (p := ⟨wr.heap.size, 1, none⟩) (Nat.le_refl _) _
                        have PR : Hid (Row W21 wr.heap.size 37 #[.int .i64 th, .int .i64 po, .int .i64 tm, .int .i64 kn]) := Lib.hid (by rw [hW21]; exact R20.out.stored 1 _)
                        replace QR := Lib.hid (QR.out.step b); replace CR := Lib.hid (CR.out.step b); replace WR := Lib.hid (WR.out.step b); replace BK := Lib.hid (BK.out.deep b); replace BP := Lib.hid (BP.out.deep b); replace BW := Lib.hid (below_step BW.out b)
                        obtain ⟨gp, hgp⟩ : ∃ g, g = wr.heap.size := ⟨_, rfl⟩
                        rw [← hgp] at PR ⊢
                        clear hW21 b hgp z1 y1 B20 R20
                        have haq2 : asksB ⟨th, po, tm, kn⟩ = true := by
                          have := AQ.out
                          unfold asksB sayB at this ⊢
                          simp only [Bool.and_eq_true, decide_eq_true_eq] at this ⊢
                          exact ⟨⟨⟨this.1.1.1, by omega⟩, this.1.2⟩, this.2⟩
                        obtain ⟨was, hwas⟩ : ∃ z, z = soB b ⟨th, po, tm, kn⟩ po := ⟨_, rfl⟩
                        obtain ⟨isn, hisn⟩ : ∃ z, z = soB (lessB b Cl F') ⟨th, po, tm, kn⟩ po := ⟨_, rfl⟩
                        have hiw : isn = true → was = true := fun h => by
                          rw [hwas]
                          exact so_more (low_of HLV.out) (low_of VB.out) (less_nobars SUB.out HNB.out) (less_says (less_less SUB.out)) ro.1 ro.2 (by rw [← hisn]; exact h)
                        have hd1 := fun (W : World) (h : BkV W W.heap.size (.slice A1 NC c1) (.slice A2 NR c2) (.slice A3 NF c3) b) => dec_val b ⟨th, po, tm, kn⟩ was VB.out haq2 hwas.symm _ _ _ W h
                        have hd2 := fun (W : World) (h : BkV W W.heap.size (.slice CVA N2 cvc) (.slice RVA N3 rvc) (.slice FVA N1 fvc) (lessB b Cl F')) => dec_val (lessB b Cl F') ⟨th, po, tm, kn⟩ isn HLV.out haq2 hisn.symm _ _ _ W h
                        have hd3 := fun (W : World) (h : BkV W W.heap.size (.slice CVA N2 cvc) (.slice RVA N3 rvc) (.slice FVA N1 fvc) (lessB b Cl F')) => dec_val (lessB b Cl F') ⟨th, sy, tm, kn⟩ so HLV.out AQ.out HLSO.out _ _ _ W h
                        unfold qnC at hd1 hd2 hd3
                        dsimp only at hd1 hd2 hd3
                        have HD1 := Lib.hid hd1; have HD2 := Lib.hid hd2; have HD3 := Lib.hid hd3; have HIW := Lib.hid hiw
                        clear hd1 hd2 hd3 hiw hwas hisn haq2
                        obtain ⟨k0, k1, k2, _, _, _⟩ := CR.out.three
                        obtain ⟨q0, q1, q2, q3⟩ := box4 PR.out
                        go_upto_region 47 with (go_at_call 12; (with_reducible refine (HD1.out _ BK.out).mono ?_); rintro e_ w21 ⟨E47, m47, c47, rfl, b⟩; replace QR := Lib.hid (QR.out.step b); replace CR := Lib.hid (CR.out.step b); replace WR := Lib.hid (WR.out.step b); replace BK := Lib.hid (BK.out.deep b); replace BP := Lib.hid (BP.out.deep b); replace PR := Lib.hid (PR.out.step b); replace BW := Lib.hid (below_step BW.out b); clear b)
                        clear k0 k1 k2 q0 q1 q2 q3
                        obtain ⟨k0, k1, k2, _, _, _⟩ := WR.out.three
                        obtain ⟨q0, q1, q2, q3⟩ := box4 PR.out
                        go_upto_region 48 with (go_at_call 12; (with_reducible refine (HD2.out _ BP.out).mono ?_); rintro e_ w22 ⟨E48, m48, c48, rfl, b⟩; replace QR := Lib.hid (QR.out.step b); replace CR := Lib.hid (CR.out.step b); replace WR := Lib.hid (WR.out.step b); replace BK := Lib.hid (BK.out.deep b); replace BP := Lib.hid (BP.out.deep b); replace PR := Lib.hid (PR.out.step b); replace BW := Lib.hid (below_step BW.out b); clear b)
                        clear k0 k1 k2 q0 q1 q2 q3
                        obtain ⟨k0, k1, k2, _, _, _⟩ := WR.out.three
                        obtain ⟨q0, q1, q2, q3⟩ := box4 QR.out
                        go_upto_region 49 with (go_at_call 12; (with_reducible refine (HD3.out _ BP.out).mono ?_); rintro e_ w23 ⟨E49, m49, c49, rfl, b⟩; replace QR := Lib.hid (QR.out.step b); replace CR := Lib.hid (CR.out.step b); replace WR := Lib.hid (WR.out.step b); replace BK := Lib.hid (BK.out.deep b); replace BP := Lib.hid (BP.out.deep b); replace PR := Lib.hid (PR.out.step b); replace BW := Lib.hid (below_step BW.out b); clear b)
                        clear k0 k1 k2 q0 q1 q2 q3
                        have hss : (so == so) = true := by simp
                        cases was
                        · have hif : isn = false := by
                            cases hq : isn with
                            | false => rfl
                            | true => exact absurd (HIW.out hq) (by simp)
                          subst hif
                          go_wp2
                          go_ret
                          exact ⟨rfl, BW.out⟩
                        · go_wp2
                          go_ret
                          exact ⟨rfl, BW.out⟩
end Go.Proofs.Ytiglkecmamnphaa
