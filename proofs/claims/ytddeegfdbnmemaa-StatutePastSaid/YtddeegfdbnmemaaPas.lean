/- StatutePast: its walk. -/
import Derived.Test.YtddeegfdbnmemaaPm
import Derived.Test.YtddeegfdbnmemaaQh
import Derived.RangeFuncBox
import Derived.Deep.DeepCutAuto
import Derived.Deep.CutBlock
import Derived.Lib.QuietBelow
import Derived.BigQuiet
import Derived.Test.YtddeegfdbnmemaaBp
namespace Go.Proofs.Ytddeegfdbnmemaa
open Go.RowKit Go.Sort Go.Lib
theorem same_check {b b' : Bk} {q : Qn} (h : SameA b b' q) (hv : validB b = true) (hv' : validB b' = true) (a : Bool) (l : List Fd) : checkB b' q a l = checkB b q a l := by
  unfold checkB
  rw [hv, hv', h.proves]

set_option maxRecDepth 100000 in
set_option maxHeartbeats 32000000 in
theorem past_walk (hsane : ∀ W : World, Calls Try.prog 9 #[] W fun e w' => e = .returned (.bool true) ∧ Below W.heap.size W w') (C : List Six) (CA : Option Addr) (Cc : Nat) (R : List Tri) (RA : Option Addr) (Rc : Nat) (F : List Six) (FA : Option Addr) (Fc : Nat) (a0 a1 a2 a3 : Int) (C2 : List Six) (C2A : Option Addr) (C2c : Nat) (R2 : List Tri) (R2A : Option Addr) (R2c : Nat) (F2 : List Six) (F2A : Option Addr) (F2c : Nat) (hw nn at_ : Int) (hC : ∀ y ∈ C, In6 y) (hR : ∀ y ∈ R, In3 y) (hF : ∀ y ∈ F, In6 y) (lC : C.length ≤ 9223372036854775807) (lR : R.length ≤ 9223372036854775807) (lF : F.length ≤ 9223372036854775807) (i0 : In64 a0) (i1 : In64 a1) (i2 : In64 a2) (i3 : In64 a3) (hC2 : ∀ y ∈ C2, In6 y) (hR2 : ∀ y ∈ R2, In3 y) (hF2 : ∀ y ∈ F2, In6 y) (lC2 : C2.length ≤ 9223372036854775807) (lR2 : R2.length ≤ 9223372036854775807) (lF2 : F2.length ≤ 9223372036854775807) (ihw : In64 hw) (inn : In64 nn) (iat : In64 at_) (w : World) (wC : Cells w w.heap.size CA 6 (C.map fun y => (sixL y).toArray)) (wR : Cells w w.heap.size RA 3 (R.map fun y => (triL y).toArray)) (wF : Cells w w.heap.size FA 6 (F.map fun y => (sixL y).toArray)) (wC2 : Cells w w.heap.size C2A 6 (C2.map fun y => (sixL y).toArray)) (wR2 : Cells w w.heap.size R2A 3 (R2.map fun y => (triL y).toArray)) (wF2 : Cells w w.heap.size F2A 6 (F2.map fun y => (sixL y).toArray)) :
    Calls Try.prog 4 #[.agg #[.slice CA C.length Cc, .slice RA R.length Rc, .slice FA F.length Fc], .agg #[.int .i64 a0, .int .i64 a1, .int .i64 a2, .int .i64 a3], .agg #[.slice C2A C2.length C2c, .slice R2A R2.length R2c, .slice F2A F2.length F2c], .int .i64 hw, .int .i64 nn, .int .i64 at_] w fun e w' => e = .returned (.bool true) ∧ Below w.heap.size w w' := by
  have hp2 := fun W => pick_any hw 2 ihw.1 ihw.2 (by omega) (by omega) W
  have hp3 := fun W => pick_any hw 3 ihw.1 ihw.2 (by omega) (by omega) W
  have hpx := fun W => pick_any nn 50 inn.1 inn.2 (by omega) (by omega) W
  have r2 := pk_range (c := hw) (n := 2) (by omega)
  have r3 := pk_range (c := hw) (n := 3) (by omega)
  have rx := pk_range (c := nn) (n := 50) (by omega)
  generalize pk hw 2 = h2 at *
  generalize pk hw 3 = h3 at *
  generalize pk nn 50 = x at *
  have hth := pk_range (c := a0) (n := 3) (by omega)
  have htm := pk_range (c := a2) (n := 100) (by omega)
  have hkn := pk_range (c := a3) (n := 100) (by omega)
  rw [show pk a0 3 = (askI a0 a1 a2 a3).thing from rfl] at hth
  rw [show pk a2 100 = (askI a0 a1 a2 a3).time from rfl] at htm
  rw [show pk a3 100 = (askI a0 a1 a2 a3).known from rfl] at hkn
  have hmad2 := made_ow C2 C2A C2c R2 R2A R2c F2 F2A F2c hC2 hR2 hF2 lC2 lR2 lF2 w wC2 wR2 wF2
  have hve := made_valid C2 R2 F2
  have hle := made_len C2 R2 F2
  generalize madeB C2 R2 F2 = e at *
  generalize hEC : e.cls.length = EC at *
  generalize hER : e.rpl.length = ER at *
  generalize hEF : e.fct.length = EF at *
  generalize C2.length = LC2 at *
  generalize R2.length = LR2 at *
  generalize F2.length = LF2 at *
  have HP2 := Lib.hid hp2; have HP3 := Lib.hid hp3; have HPX := Lib.hid hpx; have HMAD2 := Lib.hid hmad2; have VE := Lib.hid hve; have HLE := Lib.hid hle; have EEC := Lib.hid hEC; have EER := Lib.hid hER; have EEF := Lib.hid hEF; have IAT := Lib.hid iat; have IHW := Lib.hid ihw; have XT := Lib.hid (made_terms C R F)
  clear hp2 hp3 hpx hmad2 hve hle hEC hER hEF iat ihw inn hC2 hR2 hF2 lC2 lR2 lF2 wC2 wR2 wF2
  have hmad := made_bk C CA Cc R RA Rc F FA Fc hC hR hF lC lR lF w wC wR wF
  have hask := fun W => ask_ref a0 a1 a2 a3 i0 i1 i2 i3 W
  have hvb := made_valid C R F
  have hln := made_len C R F
  have haq := ask_asks a0 a1 a2 a3
  generalize hbb : madeB C R F = b at *
  generalize hqq : askI a0 a1 a2 a3 = q at *
  generalize hNC : b.cls.length = NC at *
  generalize hNR : b.rpl.length = NR at *
  generalize hNF : b.fct.length = NF at *
  generalize C.length = LC at *
  generalize R.length = LR at *
  generalize F.length = LF at *
  have SAN := Lib.hid hsane; have HMAD := Lib.hid hmad; have HASK := Lib.hid hask; have VB := Lib.hid hvb; have AQ := Lib.hid haq; have ENC := Lib.hid hNC; have ENR := Lib.hid hNR; have ENF := Lib.hid hNF; have EB := Lib.hid hbb; have EQ := Lib.hid hqq; have HLN := Lib.hid hln
  clear hsane hmad hask hvb haq hC hR hF lC lR lF wC wR wF i0 i1 i2 i3 hNC hNR hNF hbb hqq hln
  obtain ⟨W0, hW0⟩ : ∃ W0, W0 = (((w.alloc (.cells #[.slice CA LC Cc, .slice RA LR Rc, .slice FA LF Fc] 25)).alloc (.cells #[.int .i64 a0, .int .i64 a1, .int .i64 a2, .int .i64 a3] 26)).alloc (.cells #[.slice C2A LC2 C2c, .slice R2A LR2 R2c, .slice F2A LF2 F2c] 25)) := ⟨_, rfl⟩
  have BW : Hid (Below w.heap.size w W0) := Lib.hid (by rw [hW0]; exact keep_alloc (keep_alloc (keep_alloc (Below.refl _ _) _) _) _)
  have X : Hid (Row W0 (w.heap.size) 25 #[.slice CA LC Cc, .slice RA LR Rc, .slice FA LF Fc]) := Lib.hid (by rw [hW0]; exact ((Row.made _ _ _).later _).later _)
  have Y : Hid (Row W0 (w.heap.size + 1) 26 #[.int .i64 a0, .int .i64 a1, .int .i64 a2, .int .i64 a3]) := Lib.hid (by rw [hW0]; exact (Row.made_at _ _ _ (by simp)).later _)
  have Z : Hid (Row W0 (w.heap.size + 1 + 1) 25 #[.slice C2A LC2 C2c, .slice R2A LR2 R2c, .slice F2A LF2 F2c]) := Lib.hid (by rw [hW0]; exact Row.made_at _ _ _ (by simp))
  go_enter Try.func4, Try.ntmps4
  go_upto_region 1 with (fail)
  rw [← hW0]
  clear hW0
  go_upto_region 3 with (go_at_call 9; (with_reducible refine (SAN.out _).mono ?_); rintro e w1 ⟨rfl, b⟩; replace X := Lib.hid (X.out.step b); replace Y := Lib.hid (Y.out.step b); replace Z := Lib.hid (Z.out.step b); replace BW := Lib.hid (below_step BW.out b); clear b)
  obtain ⟨x0, x1, x2, _, _, _⟩ := X.out.three
  go_upto_region 4 with (go_at_call 10; (with_reducible refine (HMAD.out _ BW.out).mono ?_); rintro e w2 ⟨A1, c1, A2, c2, A3, c3, rfl, bk, b⟩; replace X := Lib.hid (X.out.step b); replace Y := Lib.hid (Y.out.step b); replace Z := Lib.hid (Z.out.step b); replace BW := Lib.hid (below_step BW.out b); have BK := Lib.hid bk; clear b bk)
  obtain ⟨W2, hW2⟩ : ∃ W, W = w2.alloc (.cells #[.slice A1 NC c1, .slice A2 NR c2, .slice A3 NF c3] 34) := ⟨_, rfl⟩
  rw [← hW2]
  have b : Below w2.heap.size w2 W2 := by rw [hW2]; exact below_alloc _ _
  have CR : Hid (Row W2 w2.heap.size 34 #[.slice A1 NC c1, .slice A2 NR c2, .slice A3 NF c3]) := Lib.hid (by rw [hW2]; exact Row.made _ _ _)
  replace X := Lib.hid (X.out.step b); replace Y := Lib.hid (Y.out.step b); replace Z := Lib.hid (Z.out.step b); replace BK := Lib.hid (BK.out.deep b); replace BW := Lib.hid (below_step BW.out b)
  obtain ⟨gc, hgc⟩ : ∃ g, g = w2.heap.size := ⟨_, rfl⟩
  rw [← hgc] at CR ⊢
  clear hW2 b x0 x1 x2 hgc
  obtain ⟨y0, y1, y2, y3⟩ := box4 Y.out
  obtain ⟨th, sy, tm, kn⟩ := q
  dsimp only at hth htm hkn
  go_upto_region 5 with (go_at_call 11; (with_reducible refine (HASK.out _).mono ?_); rintro e w3 ⟨rfl, b⟩; replace X := Lib.hid (X.out.step b); replace Y := Lib.hid (Y.out.step b); replace Z := Lib.hid (Z.out.step b); replace BK := Lib.hid (BK.out.deep b); replace CR := Lib.hid (CR.out.step b); replace BW := Lib.hid (below_step BW.out b); clear b)
  obtain ⟨W3, hW3⟩ : ∃ W, W = w3.alloc (.cells #[.int .i64 th, .int .i64 sy, .int .i64 tm, .int .i64 kn] 37) := ⟨_, rfl⟩
  unfold qnC
  dsimp only
  rw [← hW3]
  have b : Below w3.heap.size w3 W3 := by rw [hW3]; exact below_alloc _ _
  have QR : Hid (Row W3 w3.heap.size 37 #[.int .i64 th, .int .i64 sy, .int .i64 tm, .int .i64 kn]) := Lib.hid (by rw [hW3]; exact Row.made _ _ _)
  replace X := Lib.hid (X.out.step b); replace Y := Lib.hid (Y.out.step b); replace Z := Lib.hid (Z.out.step b); replace BK := Lib.hid (BK.out.deep b); replace CR := Lib.hid (CR.out.step b); replace BW := Lib.hid (below_step BW.out b)
  obtain ⟨gq, hgq⟩ : ∃ g, g = w3.heap.size := ⟨_, rfl⟩
  rw [← hgq] at QR ⊢
  clear hW3 b y0 y1 y2 y3 hgq
  obtain ⟨z0, z1, z2, _, _, _⟩ := Z.out.three
  go_upto_region 6 with (go_at_call 10; (with_reducible refine (HMAD2.out _ BW.out).mono ?_); rintro e_ w4 ⟨G1, g1, G2, g2, G3, g3, es, rfl, eo, hes, b⟩; replace X := Lib.hid (X.out.step b); replace Y := Lib.hid (Y.out.step b); replace Z := Lib.hid (Z.out.step b); replace BK := Lib.hid (BK.out.deep b); replace CR := Lib.hid (CR.out.step b); replace QR := Lib.hid (QR.out.step b); replace BW := Lib.hid (below_step BW.out b); have EX := Lib.hid eo; have HES := Lib.hid hes; clear b eo hes)
  obtain ⟨W4, hW4⟩ : ∃ W, W = w4.alloc (.cells #[.slice G1 EC g1, .slice G2 ER g2, .slice G3 EF g3] 34) := ⟨_, rfl⟩
  rw [← hW4]
  have b : Below w4.heap.size w4 W4 := by rw [hW4]; exact below_alloc _ _
  have XR : Hid (Row W4 w4.heap.size 34 #[.slice G1 EC g1, .slice G2 ER g2, .slice G3 EF g3]) := Lib.hid (by rw [hW4]; exact Row.made _ _ _)
  replace X := Lib.hid (X.out.step b); replace Y := Lib.hid (Y.out.step b); replace Z := Lib.hid (Z.out.step b); replace BK := Lib.hid (BK.out.deep b); replace CR := Lib.hid (CR.out.step b); replace QR := Lib.hid (QR.out.step b); replace EX := Lib.hid (EX.out.step b); replace BW := Lib.hid (below_step BW.out b)
  obtain ⟨ge, hge⟩ : ∃ g, g = w4.heap.size := ⟨_, rfl⟩
  rw [← hge] at XR ⊢
  clear hW4 b hge z0 z1 z2
  obtain ⟨k0, k1, k2, _, _, _⟩ := CR.out.three
  have hcp := copy_bx b VB.out A1 c1 A2 c2 A3 c3
  rw [ENC.out, ENR.out, ENF.out] at hcp
  have HCP := Lib.hid hcp
  clear hcp
  go_upto_region 7 with (go_at_call 15; (with_reducible refine (HCP.out _ BK.out).mono ?_); rintro e_ w9 ⟨B1, d1, B2, d2, B3, d3, cs, rfl, hcs, hbx⟩; have HCS := Lib.hid hcs; have HBX := Lib.hid hbx; clear hcs hbx)
  obtain ⟨W10, hW10⟩ : ∃ W, W = w9.alloc (.cells #[.slice B1 cs.length d1, .slice B2 NR d2, .slice B3 NF d3] 34) := ⟨_, rfl⟩
  rw [← hW10] at HBX ⊢
  obtain ⟨gl, hgl⟩ : ∃ g, g = w9.heap.size := ⟨_, rfl⟩
  rw [← hgl] at HBX ⊢
  obtain ⟨ic, hc0, hcz, hcs_, hcb⟩ := info_parts cls_info
  obtain ⟨ir, hr0, hrz, hrs_, hrb⟩ := info_parts rpl_info
  obtain ⟨if_, hf0, hfz, hfs_, hfb⟩ := info_parts fct_info
  have INF := Lib.hid (And.intro (And.intro hc0 (And.intro hcz (And.intro hcs_ hcb))) (And.intro (And.intro hr0 (And.intro hrz (And.intro hrs_ hrb))) (And.intro hf0 (And.intro hfz (And.intro hfs_ hfb)))))
  have hnl := HLN.out; have hel := HLE.out
  obtain ⟨nl1, nl2, nl3⟩ := hnl; obtain ⟨el1, el2, el3⟩ := hel
  have esl : es.length = EC := by have := congrArg List.length HES.out; rw [List.length_map, EEC.out] at this; exact this
  have csl : cs.length = NC := by have := congrArg List.length HCS.out; rw [List.length_map, ENC.out] at this; exact this
  have ESL := Lib.hid esl; have CSL := Lib.hid csl
  have w1_ : IntKind.i64.wrap (kn + 1) = kn + 1 := IntWalk.i64_in _ (by omega)
  have w2_ : IntKind.i64.wrap (kn + 1 + x) = kn + 1 + x := IntWalk.i64_in _ (by omega)
  have w3_ : IntKind.i64.wrap (tm + 1) = tm + 1 := IntWalk.i64_in _ (by omega)
  have w4_ : IntKind.i64.wrap (tm + 1 + x) = tm + 1 + x := IntWalk.i64_in _ (by omega)
  have w5_ : IntKind.i64.wrap (tm + 2) = tm + 2 := IntWalk.i64_in _ (by omega)
  have w6_ : IntKind.i64.wrap (tm + 2 + x) = tm + 2 + x := IntWalk.i64_in _ (by omega)
  have w7_ : IntKind.i64.wrap (kn + 2) = kn + 2 := IntWalk.i64_in _ (by omega)
  have w8_ : IntKind.i64.wrap (kn + 2 + x) = kn + 2 + x := IntWalk.i64_in _ (by omega)
  clear hW10 hgl k0 k1 k2 HCP HMAD2 HMAD hc0 hcz hcs_ hcb hr0 hrz hrs_ hrb hf0 hfz hfs_ hfb esl csl
  go_wp2
  go_loopg [17, 18] EC (fun kx s17 s18 wr => ∃ (k : Nat) (cv : Value) (cs1 : List CV), s17 = .int .i64 (k : Int) ∧ k + kx = EC ∧ Bx W4 gl cv (.slice B2 NR d2) (.slice B3 NF d3) cs1 b.rpl b.fct wr ∧ Hid (cs1.map (·.1) = b.cls ++ (e.cls.take k).map (lateC tm kn h2 x)))
  case atStart => exact ⟨0, _, cs, rfl, by omega, HBX.out, Lib.hid (by rw [HCS.out]; simp)⟩
  case round =>
    obtain ⟨k, cv, cs1, rfl, hk, hM, HCT⟩ := hrel
    have xr := XR.out.step hM.b
    have xe0 := xr.at (i := 0) rfl
    by_cases hlt : k < EC
    · obtain ⟨⟨y, ynv, ybv⟩, hp⟩ : ∃ p, es[k]? = some p := at_lt (by rw [ESL.out]; exact hlt)
      have hoe := (EX.out.step hM.b)
      have hec := hoe.c
      rw [← ESL.out] at hec
      obtain ⟨gE, hG1, gEl, hcell⟩ := own_elem clsL_len hec hp
      subst hG1
      obtain ⟨NA, nl, nc_, rfl⟩ := own_form (hoe.n _ (List.mem_of_getElem? hp)).1
      obtain ⟨BA, bl, bc_, rfl⟩ := own_form (hoe.n _ (List.mem_of_getElem? hp)).2
      have e0 := hcell 0 _ rfl
      have e1 := hcell 1 _ rfl
      have e2 := hcell 2 _ rfl
      have e3 := hcell 3 _ rfl
      have e4 := hcell 4 _ rfl
      have e5 := hcell 5 _ rfl
      rw [Nat.add_zero] at e0
      dsimp only at e0 e1 e2 e3 e4 e5
      have hy : e.cls[k]? = some y := by rw [← HES.out, List.getElem?_map, hp]; rfl
      have hnx : (e.cls.take (k + 1)).map (lateC tm kn h2 x) = (e.cls.take k).map (lateC tm kn h2 x) ++ [lateC tm kn h2 x y] := by rw [List.take_add_one, hy, List.map_append]; rfl
      have hcl : cs1.length ≤ 16 := by
        have := congrArg List.length HCT.out
        rw [List.length_map, List.length_append, List.length_map, List.length_take, ENC.out] at this
        omega
      have hyB : clsB y = true := by
        have := VE.out
        simp only [validB, Bool.and_eq_true, List.all_eq_true] at this
        exact this.1.1.2 y (List.mem_of_getElem? hy)
      obtain ⟨lo1, lo2, lo3, lo4⟩ := lateC_ok (h := h2) rx htm hkn hyB
      have irn := fun (W : World) (hb : Below wr.heap.size wr W) => And.intro ((hoe.n _ (List.mem_of_getElem? hp)).1.step hb) ((hoe.n _ (List.mem_of_getElem? hp)).2.step hb)
      have qr := QR.out.step hM.b
      obtain ⟨q0, q1, q2, q3⟩ := box4 qr
      have kEi : (k : Int) < (EC : Int) := by omega
      obtain ⟨pub, sf, se, needs, bars, gives⟩ := y
      dsimp only at e0 e1 e2 e3 e4 e5 irn
      obtain ⟨y', hy'⟩ : ∃ y', y' = lateC tm kn h2 x ⟨pub, sf, se, needs, bars, gives⟩ := ⟨_, rfl⟩
      rw [← hy'] at hnx lo2 lo3 lo4
      have HNX := Lib.hid hnx; have MM := Lib.hid hM; have IRN := Lib.hid irn; have HY' := Lib.hid hy'; have LO := Lib.hid (And.intro lo2 (And.intro lo3 lo4)); have QQ := Lib.hid qr
      clear hnx hM irn hy' lo1 lo2 lo3 lo4 qr hoe hec hcell hp hy hyB gEl xr
      go_upto_region 11 with (fail)
      obtain ⟨W5, hW5⟩ : ∃ W5, W5 = wr.alloc (.cells #[.int .i64 pub, .int .i64 sf, .int .i64 se, .slice NA nl nc_, .slice BA bl bc_, .int .i64 gives] 51) := ⟨_, rfl⟩
      rw [← hW5]
      have b5 : Below wr.heap.size wr W5 := by rw [hW5]; exact below_alloc _ _
      have r5 : Row W5 wr.heap.size 51 #[.int .i64 pub, .int .i64 sf, .int .i64 se, .slice NA nl nc_, .slice BA bl bc_, .int .i64 gives] := by rw [hW5]; exact Row.made _ _ _
      clear hW5 e0 e1 e2 e3 e4 e5 q0 q1 q2 q3 xe0
      have q5 := QQ.out.step b5
      have B5 := Lib.hid b5; have R5 := Lib.hid r5; have Q5 := Lib.hid q5
      clear b5 r5 q5
      go_upto_if 55 with (go_at_call 16; (with_reducible refine (HP2.out _).mono ?_); rintro e_ wx ⟨rfl, hwx⟩; have hwx := hwx.symm; subst hwx)
      go_cut [] (fun W => ∃ (pub' sf' se' : Int), (y'.pub = pub' ∧ y'.sf = sf' ∧ y'.st = se') ∧ Row W wr.heap.size 51 #[.int .i64 pub', .int .i64 sf', .int .i64 se', .slice NA nl nc_, .slice BA bl bc_, .int .i64 gives] ∧ Below wr.heap.size wr W)
      case first =>
        obtain ⟨c0, c1_, c2_, c3_, c4_, c5_⟩ := row6 R5.out
        obtain ⟨q0, q1, q2, q3⟩ := box4 Q5.out
        have f0 := R5.out.free 0; have f1 := R5.out.free 1; have f2 := R5.out.free 2
        by_cases hh : h2 = 0
        · have hy2 : y' = ⟨kn + 1 + x, sf, se, needs, bars, gives⟩ := by rw [HY'.out, lateC, if_pos hh]
          have HY2 := Lib.hid hy2
          clear hy2
          subst hh
          go_upto_region 12 with (fail)
          refine wp_region_still_tail 6 (by kernel_rfl) (by kernel_rfl) ?_
          simp only [List.take_succ_cons, List.take_zero, List.drop_succ_cons, List.drop_zero]
          still_step; still_step; still_step; still_step; still_call (HPX.out _); still_step
          try refine wpStill_nil ?_
          change wpList _ _ _ _ _ W5.drew
          have c0' : W5.drew.cell? ⟨wr.heap.size, 0, none⟩ = some (.int .i64 pub) := c0
          have f0' : W5.drew.frozen? ⟨wr.heap.size, 0, none⟩ = false := f0
          go_wp2
          go_meet
          case rel => exact ⟨_, _, _, ⟨by rw [HY2.out], by rw [HY2.out], by rw [HY2.out]⟩, (R5.out.drawn).stored 0 _, (B5.out.drew).setCell (p := ⟨wr.heap.size, 0, none⟩) (Nat.le_refl _) _⟩
        · have hhf : (h2 == 0) = false := by simpa using hh
          have hhs := fun (W : World) => hasref_any sf se tm W
          have HHS := Lib.hid hhs
          clear hhs
          cases hb : hasB sf se tm
          · have hy2 : y' = ⟨pub, sf, se, needs, bars, gives⟩ := by rw [HY'.out, lateC, if_neg hh]; dsimp only; rw [hb]; rfl
            have HY2 := Lib.hid hy2
            clear hy2
            rw [hb] at HHS
            go_wp2_with (go_at_call 17; (with_reducible refine (HHS.out _).mono ?_); rintro e_ w6 ⟨rfl, b6⟩)
            go_meet
            case rel => exact ⟨_, _, _, ⟨by rw [HY2.out], by rw [HY2.out], by rw [HY2.out]⟩, R5.out.step b6, below_step B5.out b6⟩
          · have hy2 : y' = ⟨pub, tm + 1, tm + 2 + x, needs, bars, gives⟩ := by rw [HY'.out, lateC, if_neg hh]; dsimp only; rw [hb]; rfl
            have HY2 := Lib.hid hy2
            clear hy2
            rw [hb] at HHS
            go_upto_region 14 with (go_at_call 17; (with_reducible refine (HHS.out _).mono ?_); rintro e_ w6 ⟨rfl, b6⟩; have B6 := Lib.hid b6; clear b6)
            have q6 := Q5.out.step B6.out
            have r6 := R5.out.step B6.out
            clear c0 c1_ c2_ c3_ c4_ c5_ q0 q1 q2 q3 f0 f1 f2
            obtain ⟨q0, q1, q2, q3⟩ := box4 q6
            refine wp_region_still_tail 10 (by kernel_rfl) (by kernel_rfl) ?_
            simp only [List.take_succ_cons, List.take_zero, List.drop_succ_cons, List.drop_zero]
            still_step; still_step; still_step; still_step; still_step; still_step; still_step; still_call (HPX.out _); still_step; still_step
            try refine wpStill_nil ?_
            change wpList _ _ _ _ _ w6.drew
            have c1' : w6.drew.cell? ⟨wr.heap.size, 1, none⟩ = some (.int .i64 sf) := r6.at (i := 1) rfl
            have f1' : w6.drew.frozen? ⟨wr.heap.size, 1, none⟩ = false := r6.free 1
            have c2' : w6.drew.cell? ⟨wr.heap.size, 2, none⟩ = some (.int .i64 se) := r6.at (i := 2) rfl
            have f2' : w6.drew.frozen? ⟨wr.heap.size, 2, none⟩ = false := r6.free 2
            have d1' := r6.at (i := 1) rfl
            have d2' := r6.at (i := 2) rfl
            have h1' := r6.free 1
            have h2' := r6.free 2
            go_wp2
            go_meet
            case rel => exact ⟨_, _, _, ⟨by rw [HY2.out], by rw [HY2.out], by rw [HY2.out]⟩, ((r6.drawn).stored 1 _).stored 2 _, (((below_step B5.out B6.out).drew).setCell (p := ⟨wr.heap.size, 1, none⟩) (Nat.le_refl _) _).setCell (p := ⟨wr.heap.size, 2, none⟩) (Nat.le_refl _) _⟩
      case rest =>
        obtain ⟨pub', sf', se', hyy, r6, b6⟩ := hcut
        have HYY := Lib.hid hyy; have R6 := Lib.hid r6; have B6 := Lib.hid b6
        clear hyy r6 b6 R5 B5 Q5
        have bx9 := MM.out.step B6.out
        obtain ⟨CVA, cvc, rfl⟩ := own_len bx9.o.c
        obtain ⟨K, hK⟩ : ∃ K, K = cs1.length := ⟨_, rfl⟩
        have HKK := Lib.hid hK.symm
        have k0 := bx9.r.at (i := 0) rfl
        rw [← hK] at hcl k0
        obtain ⟨c0, c1_, c2_, c3_, c4_, c5_⟩ := row6 R6.out
        have hy3 : y' = ⟨pub', sf', se', needs, bars, gives⟩ := by
          obtain ⟨u1, u2, u3⟩ := HYY.out
          obtain ⟨v1, v2, v3⟩ := LO.out
          cases y'
          dsimp only at u1 u2 u3 v1 v2 v3
          subst u1 u2 u3 v1 v2 v3
          rfl
        have HY3 := Lib.hid hy3; have BX9 := Lib.hid bx9
        clear hy3 bx9 hK
        obtain ⟨W7, hW7⟩ : ∃ W7, W7 = wc.alloc (.cells (clsL ((⟨pub', sf', se', needs, bars, gives⟩, .slice NA nl nc_, .slice BA bl bc_) : CV)).toArray 51) := ⟨_, rfl⟩
        have m7 := BX9.out.step (show Below wc.heap.size wc W7 from by rw [hW7]; exact below_alloc _ _)
        have hp := show IRow W7 (.slice NA nl nc_) needs ∧ IRow W7 (.slice BA bl bc_) bars from by rw [hW7]; exact ⟨(IRN.out _ B6.out).1.step (below_alloc _ _), (IRN.out _ B6.out).2.step (below_alloc _ _)⟩
        have hnew := new_at wc 51 (clsL ((⟨pub', sf', se', needs, bars, gives⟩, .slice NA nl nc_, .slice BA bl bc_) : CV))
        rw [← hW7] at hnew
        have hbase := m7.b.size
        have hown := m7.o.c
        rw [HKK.out] at hown
        have M7 := Lib.hid m7; have HNEW := Lib.hid hnew; have HOWN := Lib.hid hown; have HPP := Lib.hid hp
        have HW7 := Lib.hid hW7
        clear hW7 m7 hnew hown hp
        go_wp2_with (at_builtin; change wpList _ _ _ _ _ (wc.alloc (.cells (clsL ((⟨pub', sf', se', needs, bars, gives⟩, .slice NA nl nc_, .slice BA bl bc_) : CV)).toArray 51)); rw [← HW7.out]; refine wpList_append_own _ rfl _ _ 30 rfl W4.heap.size 51 ic (.agg #[.int .i64 0, .int .i64 0, .int .i64 0, .slice none 0 0, .slice none 0 0, .int .i64 0]) 6 80 Try.underlying30 INF.out.1.1 INF.out.1.2.1 INF.out.1.2.2.1 INF.out.1.2.2.2 rfl (by decide) _ _ _ rfl HOWN.out ⟨wc.heap.size, 0, none⟩ 1 1 (clsL ((⟨pub', sf', se', needs, bars, gives⟩, .slice NA nl nc_, .slice BA bl bc_) : CV)) rfl rfl HNEW.out (clsL_one _ rfl rfl) (by unfold maxLen; omega) (by omega) hbase ?_; intro v' w8 own8 hg8 _; obtain ⟨g', cap', rfl⟩ := ownsRow_succ own8; rw [← HKK.out] at own8; have q8 := Bx.addC (p := ((⟨pub', sf', se', needs, bars, gives⟩, .slice NA nl nc_, .slice BA bl bc_) : CV)) M7.out HPP.out (by rw [← HKK.out] at hg8; exact hg8) own8; rw [HKK.out] at q8; obtain ⟨hc8, m8⟩ := q8; obtain ⟨_, _, _, u3, u4, u5⟩ := hc8.three; have N8 := Lib.hid m8; clear own8 hg8 m8 hc8)
        go_roundg (EC - (k + 1))
        case measure => omega
        case rel => exact ⟨k + 1, _, _, by go_num, by omega, N8.out, Lib.hid (by rw [HNX.out, List.map_append, HCT.out, List.append_assoc, HY3.out]; rfl)⟩
    · obtain rfl : k = EC := by omega
      have hcf : cs1.map (·.1) = b.cls ++ e.cls.map (lateC tm kn h2 x) := by rw [HCT.out, List.take_of_length_le (by rw [EEC.out]; exact Nat.le_refl _)]
      obtain ⟨CVA, cvc, rfl⟩ := own_len hM.o.c
      obtain ⟨kk, hkk⟩ : ∃ z, z = pk at_ NC := ⟨_, rfl⟩
      obtain ⟨N1, hN1⟩ : ∃ N, N = cs1.length := ⟨_, rfl⟩
      have hN1b : N1 ≤ 16 := by
        have := congrArg List.length hcf
        rw [List.length_map, List.length_append, List.length_map, ENC.out, EEC.out] at this
        omega
      have HCF := Lib.hid hcf; have HK_ := Lib.hid hkk; have MM := Lib.hid hM; have HN1 := Lib.hid hN1
      rw [← hN1] at MM
      obtain ⟨wb, hwb⟩ : ∃ z, z = wr := ⟨_, rfl⟩
      obtain ⟨K2, hK2⟩ : ∃ K, K = if NC = 0 then 0 else ER := ⟨_, rfl⟩
      have HK2 := Lib.hid hK2
      clear hcf hkk hM hN1 hK2 HCT hlt hk hwb wb
      go_wp2
      go_loopg [19, 20] K2 (fun kx s19 s20 wr => ∃ (k : Nat) (rv : Value) (rs1 : List Rpl), s19 = .int .i64 (k : Int) ∧ k + kx = K2 ∧ Bx W4 gl (.slice CVA N1 cvc) rv (.slice B3 NF d3) cs1 rs1 b.fct wr ∧ Hid (rs1 = b.rpl ++ (e.rpl.take k).map (lateR tm kn h2 x kk)))
      case atStart => exact ⟨0, _, b.rpl, rfl, by omega, MM.out, Lib.hid (by simp)⟩
      case round =>
        clear MM xe0 xr
        obtain ⟨k, rv, rs1, rfl, hk, hM, HRT⟩ := hrel
        have xr := XR.out.step hM.b
        have xe1 := xr.at (i := 1) rfl
        have cr := CR.out.step hM.b
        have ce0 := cr.at (i := 0) rfl
        have hk2 := HK2.out
        by_cases hlt : k < ER ∧ 0 < NC
        · obtain ⟨kE, n0⟩ := hlt
          have ni : ¬ NC = 0 := by omega
          rw [if_neg ni] at hk2
          have hk2 := hk2.symm
          subst hk2
          obtain ⟨y, hp⟩ : ∃ p, e.rpl[k]? = some p := at_lt (by rw [EER.out]; exact kE)
          have hoe := (EX.out.step hM.b)
          have hec := hoe.r
          rw [← EER.out] at hec
          obtain ⟨gE, hG1, gEl, hcell⟩ := own_elem rplL_len hec hp
          subst hG1
          have e0 := hcell 0 _ rfl
          have e1 := hcell 1 _ rfl
          have e2 := hcell 2 _ rfl
          rw [Nat.add_zero] at e0
          have hnx : (e.rpl.take (k + 1)).map (lateR tm kn h2 x kk) = (e.rpl.take k).map (lateR tm kn h2 x kk) ++ [lateR tm kn h2 x kk y] := by rw [List.take_add_one, hp, List.map_append]; rfl
          have hrl : rs1.length ≤ 6 := by
            rw [HRT.out, List.length_append, List.length_map, List.length_take, ENR.out]
            omega
          have pka := fun W => pick_any at_ NC IAT.out.1 IAT.out.2 (by omega) (by omega) W
          rw [← HK_.out] at pka
          have qr := QR.out.step hM.b
          have kEi : (k : Int) < (ER : Int) := by omega
          have n0i : (0 : Int) < (NC : Int) := by omega
          obtain ⟨rc, rp, rf⟩ := y
          dsimp only at e0 e1 e2
          have lateq : ∀ (a c : Int), lateR tm kn h2 x kk ⟨rc, rp, rf⟩ = (if h2 = 0 then ⟨kk, kn + 1 + x, rf⟩ else ⟨kk, rp, tm + 1 + x⟩) := fun _ _ => rfl
          have HNX := Lib.hid hnx; have MM := Lib.hid hM; have QQ := Lib.hid qr; have PKA := Lib.hid pka; have LEQ := Lib.hid (lateq 0 0)
          clear hnx hM qr hoe hec hcell hp gEl pka lateq
          go_upto_region 19 with (fail)
          obtain ⟨P7, hP7⟩ : ∃ P : World → Prop, P = fun W => Below wr.heap.size wr W := ⟨_, rfl⟩
          have kk7 : ∀ W, P7 W → (Hid (P7 W) ∧ W.cell? ⟨gc, 0, none⟩ = some (.slice A1 NC c1) ∧ W.cell? ⟨ge, 1, none⟩ = some (.slice (some ⟨gE, 0, none⟩) ER g2) ∧ W.cell? ⟨gE, k * 3 + 1, none⟩ = some (.int .i64 rp) ∧ W.cell? ⟨gE, k * 3 + 2, none⟩ = some (.int .i64 rf)) := fun W h => by
            have h' := h
            rw [hP7] at h'
            exact ⟨Lib.hid h, cell_of h' ce0 (World.block_lt_of_cell? _ _ ce0), cell_of h' xe1 (World.block_lt_of_cell? _ _ xe1), cell_of h' e1 (World.block_lt_of_cell? _ _ e1), cell_of h' e2 (World.block_lt_of_cell? _ _ e2)⟩
          have sp : ∀ W X, P7 W → Below W.heap.size W X → P7 X := fun W X h hb => by
            rw [hP7] at h ⊢
            exact below_step h hb
          have gg : P7 wr.drew := by rw [hP7]; exact (Below.refl _ _).drew
          have GG := Lib.hid gg; have KK := Lib.hid kk7; have SP := Lib.hid sp; have HP7 := Lib.hid hP7
          clear gg kk7 sp hP7
          go_cut [20] (fun s20 W => s20 = .pointer (some ⟨wr.heap.size, 0, none⟩) ∧ Row W wr.heap.size 55 #[.int .i64 kk, .int .i64 rp, .int .i64 rf] ∧ Below wr.heap.size wr W)
          case first =>
            go_region_held3 (fun W => (Hid (P7 W) ∧ W.cell? ⟨gc, 0, none⟩ = some (.slice A1 NC c1) ∧ W.cell? ⟨ge, 1, none⟩ = some (.slice (some ⟨gE, 0, none⟩) ER g2) ∧ W.cell? ⟨gE, k * 3 + 1, none⟩ = some (.int .i64 rp) ∧ W.cell? ⟨gE, k * 3 + 2, none⟩ = some (.int .i64 rf)))
              (first | assumption | exact KK.out _ GG.out | exact KK.out _ (SP.out _ _ GG.out (below_alloc _ _)) | fail)
              (first | (go_at_call 16; (with_reducible refine (PKA.out _).mono ?_); rintro e_ wx ⟨rfl, hwx⟩; have hwx := hwx.symm; subst hwx) | fail)
            all_goals go_wp2_with fail
            all_goals go_meet
            all_goals (case rel => exact ⟨rfl, Row.made _ _ _, keep_alloc ((Below.refl _ _).drew) _⟩)
          case rest =>
            obtain ⟨rfl, r5, b5⟩ := hcut
            obtain ⟨W5, hW5⟩ : ∃ z, z = wc := ⟨_, rfl⟩
            rw [← hW5] at r5 b5 ⊢
            clear hW5 GG KK SP HP7 e0 e1 e2 xe1 ce0
            have q5 := QQ.out.step b5
            obtain ⟨q0, q1, q2, q3⟩ := box4 q5
            obtain ⟨c0, c1_, c2_, _, _, _⟩ := r5.three
            have f0 := r5.free 0; have f1 := r5.free 1; have f2 := r5.free 2
            have B5 := Lib.hid b5; have R5 := Lib.hid r5; have Q5 := Lib.hid q5
            clear b5 r5 q5
            go_upto_if 118 with (go_at_call 16; (with_reducible refine (HP2.out _).mono ?_); rintro e_ wx ⟨rfl, hwx⟩; have hwx := hwx.symm; subst hwx)
            go_cut [] (fun W => ∃ (p' f' : Int), lateR tm kn h2 x kk ⟨rc, rp, rf⟩ = ⟨kk, p', f'⟩ ∧ Row W wr.heap.size 55 #[.int .i64 kk, .int .i64 p', .int .i64 f'] ∧ Below wr.heap.size wr W)
            case first =>
              by_cases hh : h2 = 0
              · have hl2 := LEQ.out
                rw [if_pos hh] at hl2
                have HL2 := Lib.hid hl2
                clear hl2 LEQ
                subst hh
                go_upto_region 21 with (fail)
                refine wp_region_still_tail 6 (by kernel_rfl) (by kernel_rfl) ?_
                simp only [List.take_succ_cons, List.take_zero, List.drop_succ_cons, List.drop_zero]
                still_step; still_step; still_step; still_step; still_call (HPX.out _); still_step
                try refine wpStill_nil ?_
                change wpList _ _ _ _ _ W5.drew
                have c0' : W5.drew.cell? ⟨wr.heap.size, 1, none⟩ = some (.int .i64 rp) := R5.out.at (i := 1) rfl
                have f0' : W5.drew.frozen? ⟨wr.heap.size, 1, none⟩ = false := R5.out.free 1
                go_wp2
                go_meet
                case rel => exact ⟨_, _, HL2.out, (R5.out.drawn).stored 1 _, (B5.out.drew).setCell (p := ⟨wr.heap.size, 1, none⟩) (Nat.le_refl _) _⟩
              · have hl2 := LEQ.out
                rw [if_neg hh] at hl2
                have hhf : (h2 == 0) = false := by simpa using hh
                have HL2 := Lib.hid hl2
                clear hl2 LEQ
                go_upto_region 22 with (fail)
                refine wp_region_still_tail 6 (by kernel_rfl) (by kernel_rfl) ?_
                simp only [List.take_succ_cons, List.take_zero, List.drop_succ_cons, List.drop_zero]
                still_step; still_step; still_step; still_step; still_call (HPX.out _); still_step
                try refine wpStill_nil ?_
                change wpList _ _ _ _ _ W5.drew
                have c0' : W5.drew.cell? ⟨wr.heap.size, 2, none⟩ = some (.int .i64 rf) := R5.out.at (i := 2) rfl
                have f0' : W5.drew.frozen? ⟨wr.heap.size, 2, none⟩ = false := R5.out.free 2
                go_wp2
                go_meet
                case rel => exact ⟨_, _, HL2.out, (R5.out.drawn).stored 2 _, (B5.out.drew).setCell (p := ⟨wr.heap.size, 2, none⟩) (Nat.le_refl _) _⟩
            case rest =>
              obtain ⟨p', f', hl2, r6, b6⟩ := hcut
              have HL2 := Lib.hid hl2; have R6 := Lib.hid r6; have B6 := Lib.hid b6
              clear hl2 r6 b6 R5 B5 Q5 LEQ c0 c1_ c2_ f0 f1 f2 q0 q1 q2 q3
              have bx9 := MM.out.step B6.out
              obtain ⟨RVA, rvc, rfl⟩ := own_len bx9.o.r
              obtain ⟨K, hK⟩ : ∃ K, K = rs1.length := ⟨_, rfl⟩
              have HKK := Lib.hid hK.symm
              have k1 := bx9.r.at (i := 1) rfl
              rw [← hK] at hrl k1
              obtain ⟨c0, c1_, c2_, _, _, _⟩ := R6.out.three
              have BX9 := Lib.hid bx9
              clear bx9 hK
              obtain ⟨W7, hW7⟩ : ∃ W7, W7 = wc.alloc (.cells (rplL (⟨kk, p', f'⟩ : Rpl)).toArray 55) := ⟨_, rfl⟩
              have m7 := BX9.out.step (show Below wc.heap.size wc W7 from by rw [hW7]; exact below_alloc _ _)
              have hnew := new_at wc 55 (rplL (⟨kk, p', f'⟩ : Rpl))
              rw [← hW7] at hnew
              have hbase := m7.b.size
              have hown := m7.o.r
              rw [HKK.out] at hown
              have M7 := Lib.hid m7; have HNEW := Lib.hid hnew; have HOWN := Lib.hid hown
              have HW7 := Lib.hid hW7
              clear hW7 m7 hnew hown
              go_wp2_with (at_builtin; change wpList _ _ _ _ _ (wc.alloc (.cells (rplL (⟨kk, p', f'⟩ : Rpl)).toArray 55)); rw [← HW7.out]; refine wpList_append_own _ rfl _ _ 31 rfl W4.heap.size 55 ir (.agg #[.int .i64 0, .int .i64 0, .int .i64 0]) 3 24 Try.underlying31 INF.out.2.1.1 INF.out.2.1.2.1 INF.out.2.1.2.2.1 INF.out.2.1.2.2.2 rfl (by decide) _ _ _ rfl HOWN.out ⟨wc.heap.size, 0, none⟩ 1 1 (rplL (⟨kk, p', f'⟩ : Rpl)) rfl rfl HNEW.out (rplL_one _) (by unfold maxLen; omega) (by omega) hbase ?_; intro v' w8 own8 hg8 _; obtain ⟨g', cap', rfl⟩ := ownsRow_succ own8; rw [← HKK.out] at own8; have q8 := Bx.addR (p := (⟨kk, p', f'⟩ : Rpl)) M7.out (by rw [← HKK.out] at hg8; exact hg8) own8; rw [HKK.out] at q8; obtain ⟨hc8, m8⟩ := q8; obtain ⟨_, _, _, u3, u4, u5⟩ := hc8.three; have N8 := Lib.hid m8; clear own8 hg8 m8 hc8)
              go_roundg (ER - (k + 1))
              case measure => omega
              case rel => exact ⟨k + 1, _, _, by go_num, by omega, N8.out, Lib.hid (by rw [HNX.out, HRT.out, List.append_assoc, HL2.out])⟩
        · obtain ⟨RVA, rvc, rfl⟩ := own_len hM.o.r
          obtain ⟨N2, hN2⟩ : ∃ N, N = rs1.length := ⟨_, rfl⟩
          have hke : K2 ≤ ER := by rw [hk2]; split <;> omega
          have hrf : rs1 = b.rpl ++ (if b.cls = [] then [] else e.rpl.map (lateR tm kn h2 x kk)) := by
            rw [HRT.out]
            by_cases hc : NC = 0
            · have hb0 : b.cls = [] := List.length_eq_zero_iff.1 (by rw [ENC.out]; exact hc)
              rw [if_pos hc] at hk2
              obtain rfl : k = 0 := by omega
              rw [if_pos hb0]; rfl
            · have hb0 : ¬ b.cls = [] := fun h => hc (by rw [← ENC.out, h]; rfl)
              rw [if_neg hc] at hk2
              rw [if_neg hb0, List.take_of_length_le (by rw [EER.out]; omega)]
          have hN2b : N2 ≤ 6 := by
            rw [hN2, HRT.out, List.length_append, List.length_map, List.length_take, ENR.out]
            omega
          have hor : ((k : Int) < (ER : Int) ∧ ¬ (0 : Int) < (NC : Int)) ∨ ¬ (k : Int) < (ER : Int) := by
            rcases Nat.lt_or_ge k ER with q | q
            · exact .inl ⟨by omega, by omega⟩
            · exact .inr (by omega)
          have HRF := Lib.hid hrf; have MM := Lib.hid hM; have HN2 := Lib.hid hN2
          rw [← hN2] at MM
          clear hrf hM hN2 hke hk2 hk hlt HRT
          go_upto_region 17 with (fail)
          go_cut [95] (fun s95 W => s95 = .bool false ∧ W = wr)
          case first =>
            rcases hor with ⟨q1, q2⟩ | q1
            all_goals (go_wp2; go_meet; case rel => exact ⟨by first | rfl | exact congrArg Value.bool (decide_eq_false (by omega)), rfl⟩)
          case rest =>
            obtain ⟨rfl, hwc⟩ := hcut
            subst hwc
            clear hor xe1 ce0 xr cr
            obtain ⟨wb, hwb⟩ : ∃ z, z = wc := ⟨_, rfl⟩
            rw [← hwb] at MM ⊢
            clear hwb
            go_wp2
            go_loopg [21, 22] EF (fun kx s21 s22 wr => ∃ (k : Nat) (fv : Value) (fs1 : List Fct), s21 = .int .i64 (k : Int) ∧ k + kx = EF ∧ Bx W4 gl (.slice CVA N1 cvc) (.slice RVA N2 rvc) fv cs1 rs1 fs1 wr ∧ Hid (fs1 = b.fct ++ (e.fct.take k).map (lateF tm kn h3 x)))
            case atStart => exact ⟨0, _, b.fct, rfl, by omega, MM.out, Lib.hid (by simp)⟩
            case round =>
              clear MM
              obtain ⟨k, fv, fs1, rfl, hk, hM, HFT⟩ := hrel
              have xr := XR.out.step hM.b
              have xe2 := xr.at (i := 2) rfl
              by_cases hlt : k < EF
              · obtain ⟨y, hp⟩ : ∃ p, e.fct[k]? = some p := at_lt (by rw [EEF.out]; exact hlt)
                have hec := (EX.out.step hM.b).f
                rw [← EEF.out] at hec
                obtain ⟨gE, hG1, gEl, hcell⟩ := own_elem fctL_len hec hp
                subst hG1
                have e0 := hcell 0 _ rfl
                have e1 := hcell 1 _ rfl
                have e2 := hcell 2 _ rfl
                have e3 := hcell 3 _ rfl
                have e4 := hcell 4 _ rfl
                have e5 := hcell 5 _ rfl
                rw [Nat.add_zero] at e0
                try dsimp only at e0 e1 e2 e3 e4 e5
                have hnx : (e.fct.take (k + 1)).map (lateF tm kn h3 x) = (e.fct.take k).map (lateF tm kn h3 x) ++ [lateF tm kn h3 x y] := by rw [List.take_add_one, hp, List.map_append]; rfl
                have hfl : fs1.length ≤ 16 := by
                  rw [HFT.out, List.length_append, List.length_map, List.length_take, ENF.out]
                  omega
                have qr := QR.out.step hM.b
                obtain ⟨q0, q1, q2, q3⟩ := box4 qr
                have kEi : (k : Int) < (EF : Int) := by omega
                obtain ⟨ft, fy, fa, fb, fc, fd⟩ := y
                try dsimp only at e0 e1 e2 e3 e4 e5
                obtain ⟨y', hy'⟩ : ∃ y', y' = lateF tm kn h3 x ⟨ft, fy, fa, fb, fc, fd⟩ := ⟨_, rfl⟩
                rw [← hy'] at hnx
                have HNX := Lib.hid hnx; have MM := Lib.hid hM; have HY' := Lib.hid hy'; have QQ := Lib.hid qr
                clear hnx hM hy' qr hec hcell hp gEl xr
                go_upto_region 28 with (fail)
                obtain ⟨W5, hW5⟩ : ∃ W5, W5 = wr.alloc (.cells #[.int .i64 ft, .int .i64 fy, .int .i64 fa, .int .i64 fb, .int .i64 fc, .int .i64 fd] 57) := ⟨_, rfl⟩
                rw [← hW5]
                have b5 : Below wr.heap.size wr W5 := by rw [hW5]; exact below_alloc _ _
                have r5 : Row W5 wr.heap.size 57 #[.int .i64 ft, .int .i64 fy, .int .i64 fa, .int .i64 fb, .int .i64 fc, .int .i64 fd] := by rw [hW5]; exact Row.made _ _ _
                clear hW5 e0 e1 e2 e3 e4 e5 q0 q1 q2 q3 xe2
                have q5 := QQ.out.step b5
                have B5 := Lib.hid b5; have R5 := Lib.hid r5; have Q5 := Lib.hid q5
                clear b5 r5 q5
                go_upto_block 6 with (go_at_call 16; (with_reducible refine (HP3.out _).mono ?_); rintro e_ wx ⟨rfl, hwx⟩; have hwx := hwx.symm; subst hwx)
                go_cut [] (fun W => ∃ (p0 p1 p2 p3 p4 p5 : Int), y' = ⟨p0, p1, p2, p3, p4, p5⟩ ∧ Row W wr.heap.size 57 #[.int .i64 p0, .int .i64 p1, .int .i64 p2, .int .i64 p3, .int .i64 p4, .int .i64 p5] ∧ Below wr.heap.size wr W)
                case first =>
                  obtain ⟨q0, q1, q2, q3⟩ := box4 Q5.out
                  by_cases hh : h3 = 0
                  · have hy2 : y' = ⟨3, fy, fa, fb, fc, fd⟩ := by rw [HY'.out, lateF, if_pos hh]
                    have HY2 := Lib.hid hy2
                    clear hy2
                    subst hh
                    have c0' := R5.out.at (i := 0) rfl
                    have f0' := R5.out.free 0
                    go_wp2
                    go_meet
                    case rel => exact ⟨_, _, _, _, _, _, HY2.out, R5.out.stored 0 _, B5.out.setCell (p := ⟨wr.heap.size, 0, none⟩) (Nat.le_refl _) _⟩
                  have hhf : (h3 == 0) = false := by simpa using hh
                  by_cases hh1 : h3 = 1
                  · have hy2 : y' = ⟨ft, fy, fa, fb, kn + 1, kn + 2 + x⟩ := by rw [HY'.out, lateF, if_neg hh, if_pos hh1]
                    have HY2 := Lib.hid hy2
                    clear hy2
                    subst hh1
                    go_upto_region 33 with (fail)
                    refine wp_region_still_tail 10 (by kernel_rfl) (by kernel_rfl) ?_
                    simp only [List.take_succ_cons, List.take_zero, List.drop_succ_cons, List.drop_zero]
                    still_step; still_step; still_step; still_step; still_step; still_step; still_step; still_call (HPX.out _); still_step; still_step
                    try refine wpStill_nil ?_
                    change wpList _ _ _ _ _ W5.drew
                    have c1' : W5.drew.cell? ⟨wr.heap.size, 4, none⟩ = some (.int .i64 fc) := R5.out.at (i := 4) rfl
                    have f1' : W5.drew.frozen? ⟨wr.heap.size, 4, none⟩ = false := R5.out.free 4
                    have d1' := R5.out.at (i := 4) rfl
                    have h1' := R5.out.free 4
                    have c2' : W5.drew.cell? ⟨wr.heap.size, 5, none⟩ = some (.int .i64 fd) := R5.out.at (i := 5) rfl
                    have f2' : W5.drew.frozen? ⟨wr.heap.size, 5, none⟩ = false := R5.out.free 5
                    have d2' := R5.out.at (i := 5) rfl
                    have h2' := R5.out.free 5
                    go_wp2
                    go_meet
                    case rel => exact ⟨_, _, _, _, _, _, HY2.out, ((R5.out.drawn).stored 4 _).stored 5 _, (((B5.out).drew).setCell (p := ⟨wr.heap.size, 4, none⟩) (Nat.le_refl _) _).setCell (p := ⟨wr.heap.size, 5, none⟩) (Nat.le_refl _) _⟩
                  · have hy2 : y' = ⟨ft, fy, tm + 1, tm + 2 + x, fc, fd⟩ := by rw [HY'.out, lateF, if_neg hh, if_neg hh1]
                    have hhf1 : (h3 == 1) = false := by simpa using hh1
                    have HY2 := Lib.hid hy2
                    clear hy2
                    go_upto_region 29 with (fail)
                    refine wp_region_still_tail 10 (by kernel_rfl) (by kernel_rfl) ?_
                    simp only [List.take_succ_cons, List.take_zero, List.drop_succ_cons, List.drop_zero]
                    still_step; still_step; still_step; still_step; still_step; still_step; still_step; still_call (HPX.out _); still_step; still_step
                    try refine wpStill_nil ?_
                    change wpList _ _ _ _ _ W5.drew
                    have c1' : W5.drew.cell? ⟨wr.heap.size, 2, none⟩ = some (.int .i64 fa) := R5.out.at (i := 2) rfl
                    have f1' : W5.drew.frozen? ⟨wr.heap.size, 2, none⟩ = false := R5.out.free 2
                    have d1' := R5.out.at (i := 2) rfl
                    have h1' := R5.out.free 2
                    have c2' : W5.drew.cell? ⟨wr.heap.size, 3, none⟩ = some (.int .i64 fb) := R5.out.at (i := 3) rfl
                    have f2' : W5.drew.frozen? ⟨wr.heap.size, 3, none⟩ = false := R5.out.free 3
                    have d2' := R5.out.at (i := 3) rfl
                    have h2' := R5.out.free 3
                    go_wp2
                    go_meet
                    case rel => exact ⟨_, _, _, _, _, _, HY2.out, ((R5.out.drawn).stored 2 _).stored 3 _, (((B5.out).drew).setCell (p := ⟨wr.heap.size, 2, none⟩) (Nat.le_refl _) _).setCell (p := ⟨wr.heap.size, 3, none⟩) (Nat.le_refl _) _⟩
                case rest =>
                  obtain ⟨p0, p1, p2, p3, p4, p5, hl2, r6, b6⟩ := hcut
                  have HL2 := Lib.hid hl2; have R6 := Lib.hid r6; have B6 := Lib.hid b6
                  clear hl2 r6 b6 R5 B5 Q5
                  have bx9 := MM.out.step B6.out
                  obtain ⟨FVA, fvc, rfl⟩ := own_len bx9.o.f
                  obtain ⟨K, hK⟩ : ∃ K, K = fs1.length := ⟨_, rfl⟩
                  have HKK := Lib.hid hK.symm
                  have k2 := bx9.r.at (i := 2) rfl
                  rw [← hK] at hfl k2
                  obtain ⟨c0, c1_, c2_, c3_, c4_, c5_⟩ := row6 R6.out
                  have BX9 := Lib.hid bx9
                  clear bx9 hK
                  obtain ⟨W7, hW7⟩ : ∃ W7, W7 = wc.alloc (.cells (fctL (⟨p0, p1, p2, p3, p4, p5⟩ : Fct)).toArray 57) := ⟨_, rfl⟩
                  have m7 := BX9.out.step (show Below wc.heap.size wc W7 from by rw [hW7]; exact below_alloc _ _)
                  have hnew := new_at wc 57 (fctL (⟨p0, p1, p2, p3, p4, p5⟩ : Fct))
                  rw [← hW7] at hnew
                  have hbase := m7.b.size
                  have hown := m7.o.f
                  rw [HKK.out] at hown
                  have M7 := Lib.hid m7; have HNEW := Lib.hid hnew; have HOWN := Lib.hid hown
                  have HW7 := Lib.hid hW7
                  clear hW7 m7 hnew hown
                  go_wp2_with (at_builtin; change wpList _ _ _ _ _ (wc.alloc (.cells (fctL (⟨p0, p1, p2, p3, p4, p5⟩ : Fct)).toArray 57)); rw [← HW7.out]; refine wpList_append_own _ rfl _ _ 32 rfl W4.heap.size 57 if_ (.agg #[.int .i64 0, .int .i64 0, .int .i64 0, .int .i64 0, .int .i64 0, .int .i64 0]) 6 48 Try.underlying32 INF.out.2.2.1 INF.out.2.2.2.1 INF.out.2.2.2.2.1 INF.out.2.2.2.2.2 rfl (by decide) _ _ _ rfl HOWN.out ⟨wc.heap.size, 0, none⟩ 1 1 (fctL (⟨p0, p1, p2, p3, p4, p5⟩ : Fct)) rfl rfl HNEW.out (fctL_one _) (by unfold maxLen; omega) (by omega) hbase ?_; intro v' w8 own8 hg8 _; obtain ⟨g', cap', rfl⟩ := ownsRow_succ own8; rw [← HKK.out] at own8; have q8 := Bx.addF (p := (⟨p0, p1, p2, p3, p4, p5⟩ : Fct)) M7.out (by rw [← HKK.out] at hg8; exact hg8) own8; rw [HKK.out] at q8; obtain ⟨hc8, m8⟩ := q8; obtain ⟨_, _, _, u3, u4, u5⟩ := hc8.three; have N8 := Lib.hid m8; clear own8 hg8 m8 hc8)
                  go_roundg (EF - (k + 1))
                  case measure => omega
                  case rel => exact ⟨k + 1, _, _, by go_num, by omega, N8.out, Lib.hid (by rw [HNX.out, HFT.out, List.append_assoc, HL2.out])⟩
              · obtain rfl : k = EF := by omega
                obtain ⟨FVA, fvc, rfl⟩ := own_len hM.o.f
                go_upto_region 35 with (fail)
                have hff : fs1 = b.fct ++ e.fct.map (lateF tm kn h3 x) := by rw [HFT.out, List.take_of_length_le (by rw [EEF.out]; exact Nat.le_refl _)]
                obtain ⟨bp, hbp⟩ : ∃ z, z = pastB b e tm kn h2 h3 x kk := ⟨_, rfl⟩
                have hbe : bp = ⟨cs1.map (·.1), rs1, fs1⟩ := by rw [hbp, HCF.out, HRF.out, hff]; rfl
                have hbv : validB bp = true := by
                  rw [hbp]
                  refine past_valid VB.out VE.out (by rw [ENC.out, ENR.out, ENF.out]; exact ⟨nl1, nl2, nl3⟩) (by rw [EEC.out, EER.out, EEF.out]; exact ⟨el1, el2, el3⟩) rx htm hkn fun hne => ?_
                  rw [ENC.out, HK_.out]
                  refine pk_range ?_
                  have : NC ≠ 0 := fun h => hne (List.length_eq_zero_iff.1 (by rw [ENC.out]; exact h))
                  omega
                have hsm : SameA b bp ⟨th, sy, tm, kn⟩ := by rw [hbp]; exact past_same rx.1 hth.2
                obtain ⟨N3, hN3⟩ : ∃ N, N = fs1.length := ⟨_, rfl⟩
                have hbk := hM.bk hbe hbv
                have wr_ := hM.r
                rw [← hN3] at hbk wr_
                have hb := hM.b
                have WR := Lib.hid wr_; have BP := Lib.hid hbk; have BPV := Lib.hid hbv; have HSM := Lib.hid hsm
                clear X Y Z
                replace BK := Lib.hid (BK.out.deep hb); replace CR := Lib.hid (CR.out.step hb); replace QR := Lib.hid (QR.out.step hb); replace BW := Lib.hid (below_step BW.out hb)
                clear hM hff hbp hbe hbv hsm hN3 hbk wr_ hb xr xe2 hk hlt HFT HRF HCF HN1 HN2 HK_ XR EX
                obtain ⟨W9, hW9⟩ : ∃ z, z = wr := ⟨_, rfl⟩
                rw [← hW9] at BK CR QR WR BP BW ⊢
                clear hW9
                obtain ⟨k0, k1, k2, _, _, _⟩ := CR.out.three
                obtain ⟨q0, q1, q2, q3⟩ := box4 QR.out
                have hdec := fun (W : World) (h : BkV W W.heap.size (.slice A1 NC c1) (.slice A2 NR c2) (.slice A3 NF c3) b) => decide_prf b ⟨th, sy, tm, kn⟩ VB.out AQ.out _ _ _ W h
                unfold qnC at hdec
                dsimp only at hdec
                generalize hso : soB b ⟨th, sy, tm, kn⟩ sy = so at hdec
                have HDEC := Lib.hid hdec; have HSO := Lib.hid hso
                clear hdec hso
                go_upto_region 36 with (go_at_call 12; (with_reducible refine (HDEC.out _ BK.out).mono ?_); rintro e w4 ⟨g, n, c, l, rfl, pf, ⟨n0, n20⟩, b⟩; replace BK := Lib.hid (BK.out.deep b); replace CR := Lib.hid (CR.out.step b); replace QR := Lib.hid (QR.out.step b); replace WR := Lib.hid (WR.out.step b); replace BP := Lib.hid (BP.out.deep b); replace BW := Lib.hid (below_step BW.out b); have PF := Lib.hid pf; clear b pf)
                clear k0 k1 k2 q0 q1 q2 q3
                have hnc := PF.out.cap
                have hso2 : soB bp ⟨th, sy, tm, kn⟩ sy = so := by rw [← HSM.out.so]; exact HSO.out
                have hdec2 := fun (W : World) (h : BkV W W.heap.size (.slice CVA N1 cvc) (.slice RVA N2 rvc) (.slice FVA N3 fvc) bp) => decide_prf bp ⟨th, sy, tm, kn⟩ BPV.out AQ.out _ _ _ W h
                unfold qnC at hdec2
                dsimp only at hdec2
                rw [hso2] at hdec2
                have HDEC2 := Lib.hid hdec2; have HSO2 := Lib.hid hso2
                clear hdec2 hso2
                obtain ⟨k0, k1, k2, _, _, _⟩ := WR.out.three
                obtain ⟨q0, q1, q2, q3⟩ := box4 QR.out
                go_upto_region 37 with (go_at_call 12; (with_reducible refine (HDEC2.out _ BP.out).mono ?_); rintro e w5 ⟨g2, n2, cc2, l2, rfl, pf2, ⟨n02, n202⟩, b⟩; replace BK := Lib.hid (BK.out.deep b); replace CR := Lib.hid (CR.out.step b); replace QR := Lib.hid (QR.out.step b); replace WR := Lib.hid (WR.out.step b); replace BP := Lib.hid (BP.out.deep b); replace PF := Lib.hid (PF.out.step b); replace BW := Lib.hid (below_step BW.out b); have PF2 := Lib.hid pf2; clear b pf2)
                clear k0 k1 k2 q0 q1 q2 q3
                have hnc2 := PF2.out.cap
                have hss : (so != so) = false := by simp
                have hb1 := fun W hl => bent_any l (some ⟨g, 0, none⟩) c hw nn at_ IHW.out IAT.out (by have := PF.out.len; omega) W hl
                rw [PF.out.len] at hb1
                have HB1 := Lib.hid hb1
                clear hb1
                go_upto_region 40 with (go_at_call 14; (with_reducible refine (HB1.out _ PF.out.fds).mono ?_); rintro e w6 ⟨VA1, m1, vc1, L1, rfl, ⟨e1, le1, lc1⟩, f1, b⟩; replace BK := Lib.hid (BK.out.deep b); replace CR := Lib.hid (CR.out.step b); replace QR := Lib.hid (QR.out.step b); replace WR := Lib.hid (WR.out.step b); replace BP := Lib.hid (BP.out.deep b); replace PF := Lib.hid (PF.out.step b); replace PF2 := Lib.hid (PF2.out.step b); replace BW := Lib.hid (below_step BW.out b); have F1 := Lib.hid f1; have E1 := Lib.hid e1; clear b f1 e1)
                obtain ⟨W8, hW8⟩ : ∃ W, W = w6.alloc (.cells #[.slice (some ⟨g, 0, none⟩) n c, .slice (some ⟨g2, 0, none⟩) n2 cc2, .slice VA1 m1 vc1] 28) := ⟨_, rfl⟩
                rw [← hW8]
                have b : Below w6.heap.size w6 W8 := by rw [hW8]; exact below_alloc _ _
                have ZR : Hid (Row W8 w6.heap.size 28 #[.slice (some ⟨g, 0, none⟩) n c, .slice (some ⟨g2, 0, none⟩) n2 cc2, .slice VA1 m1 vc1]) := Lib.hid (by rw [hW8]; exact Row.made _ _ _)
                replace BK := Lib.hid (BK.out.deep b); replace CR := Lib.hid (CR.out.step b); replace QR := Lib.hid (QR.out.step b); replace WR := Lib.hid (WR.out.step b); replace BP := Lib.hid (BP.out.deep b); replace PF := Lib.hid (PF.out.step b); replace PF2 := Lib.hid (PF2.out.step b); replace F1 := Lib.hid (F1.out.deep b); replace BW := Lib.hid (below_step BW.out b)
                obtain ⟨gz, hgz⟩ : ∃ g, g = w6.heap.size := ⟨_, rfl⟩
                rw [← hgz] at ZR ⊢
                clear hW8 b hgz HB1 HDEC HDEC2
                have pick3 : ∀ k, k < 3 → ∃ (A : Option Addr) (m cc : Nat) (z : List Fd), (#[.slice (some ⟨g, 0, none⟩) n c, .slice (some ⟨g2, 0, none⟩) n2 cc2, .slice VA1 m1 vc1] : Array Value)[k]? = some (.slice A m cc) ∧ z.length = m ∧ m ≤ cc ∧ m ≤ 1000 ∧ FdsC W8 A z := fun k hk => by
                  match k, hk with
                  | 0, _ => exact ⟨_, _, _, l, rfl, PF.out.len, hnc, by omega, PF.out.fds⟩
                  | 1, _ => exact ⟨_, _, _, l2, rfl, PF2.out.len, hnc2, by omega, PF2.out.fds⟩
                  | 2, _ => exact ⟨_, _, _, L1, rfl, E1.out, lc1, by omega, F1.out⟩
                have P3 := Lib.hid pick3
                clear pick3
                go_loopg [220, 30] 3 (fun kx s220 s30 wr => ∃ k : Nat, s220 = .int .i64 (k : Int) ∧ k + kx = 3 ∧ Below W8.heap.size W8 wr)
                case atStart => exact ⟨0, rfl, by omega, Below.refl _ _⟩
                case round =>
                  obtain ⟨k, rfl, hk, hb⟩ := hrel
                  have K7 := Lib.hid (CR.out.step hb); have Q7 := Lib.hid (QR.out.step hb); have V7 := Lib.hid (WR.out.step hb); have HB := Lib.hid hb; have U7 := Lib.hid (BK.out.deep hb); have T7 := Lib.hid (BP.out.deep hb)
                  by_cases hlt : k < 3
                  · obtain ⟨A, m, cc, z, hcell, hzl, hzc, hz9, hzf⟩ := P3.out k hlt
                    have zc := (ZR.out.step hb).at hcell
                    obtain ⟨r, hr⟩ : ∃ r, r = checkB b ⟨th, sy, tm, kn⟩ so z := ⟨_, rfl⟩
                    have ck := fun (W : World) (h : Below wr.heap.size wr W) => check_at b ⟨th, sy, tm, kn⟩ so r z A m cc VB.out hr.symm hzl hzc hz9 (.slice A1 NC c1) (.slice A2 NR c2) (.slice A3 NF c3) W (U7.out.deep h) ((hzf.deep hb).deep h)
                    have ck2 := fun (W : World) (h : Below wr.heap.size wr W) => check_at bp ⟨th, sy, tm, kn⟩ so r z A m cc BPV.out ((same_check HSM.out VB.out BPV.out _ _).trans hr.symm) hzl hzc hz9 (.slice CVA N1 cvc) (.slice RVA N2 rvc) (.slice FVA N3 fvc) W (T7.out.deep h) ((hzf.deep hb).deep h)
                    unfold qnC at ck ck2
                    dsimp only at ck ck2
                    have CK := Lib.hid ck; have CK2 := Lib.hid ck2
                    have hrr : (r != r) = false := by simp
                    obtain ⟨k0, k1, k2, _, _, _⟩ := K7.out.three
                    obtain ⟨q0, q1, q2, q3⟩ := box4 Q7.out
                    obtain ⟨v0, v1, v2, _, _, _⟩ := V7.out.three
                    have k3i : (k : Int) < 3 := by omega
                    clear ck ck2 hcell hzf hzl hzc hz9 hb hr
                    go_upto_region 42 with (fail)
                    have gk0 := cell_regrown k0
                    have gk1 := cell_regrown k1
                    have gk2 := cell_regrown k2
                    have gq0 := cell_regrown q0
                    have gq1 := cell_regrown q1
                    have gq2 := cell_regrown q2
                    have gq3 := cell_regrown q3
                    have gv0 := cell_regrown v0
                    have gv1 := cell_regrown v1
                    have gv2 := cell_regrown v2
                    refine wp_region_quiet_below (by kernel_rfl) (by kernel_rfl) ?_
                    repeat (go_big_quiet_step (first | (go_at_call 13; with_reducible exact Calls.regrown_of (CK.out _ (below_regrown _ _ _))) | (go_at_call 13; with_reducible exact Calls.regrown_of (CK2.out _ (below_regrown _ _ _))) | fail))
                    refine wpQuiet_nil ?_
                    intro _ hw'
                    obtain ⟨⟨dq, osq⟩, hw''⟩ := hw'
                    have b9 := below_regrown wr dq osq
                    subst hw''
                    have B9 := Lib.hid b9
                    clear b9
                    go_wp2_with fail
                    go_roundg (3 - (k + 1))
                    case measure => omega
                    case rel => exact ⟨k + 1, by go_num, by omega, below_step HB.out B9.out⟩
                  · obtain rfl : k = 3 := by omega
                    have hpr : provesB b ⟨th, sy, tm, kn⟩ l2 sy = true := (HSM.out.proves l2 sy).trans PF2.out.slim.1
                    have hck : checkB b ⟨th, sy, tm, kn⟩ so l2 = true := by have := yes_check (b := b) (q := ⟨th, sy, tm, kn⟩) VB.out AQ.out hpr; dsimp only at this; rwa [HSO.out] at this
                    have ck := check_at b ⟨th, sy, tm, kn⟩ so true l2 (some ⟨g2, 0, none⟩) n2 cc2 VB.out hck PF2.out.len hnc2 (by omega) _ _ _ wr U7.out (PF2.out.fds.deep hb)
                    unfold qnC at ck
                    dsimp only at ck
                    have CK := Lib.hid ck
                    obtain ⟨k0, k1, k2, _, _, _⟩ := K7.out.three
                    obtain ⟨q0, q1, q2, q3⟩ := box4 Q7.out
                    clear ck hck hpr hb
                    go_wp2_with (go_at_call 13; (with_reducible refine CK.out.mono ?_); rintro e w9 ⟨rfl, b9⟩; have B9 := Lib.hid b9; clear b9)
                    go_ret
                    exact ⟨rfl, below_step (below_step BW.out HB.out) B9.out⟩
end Go.Proofs.Ytddeegfdbnmemaa
