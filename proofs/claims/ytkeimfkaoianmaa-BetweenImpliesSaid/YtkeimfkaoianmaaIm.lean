/- BetweenImplies: its walk. -/
import Derived.Test.YtkeimfkaoianmaaIf
import Derived.Lib.QuietBelow
import Derived.BigQuiet
namespace Go.Proofs.Ytkeimfkaoianmaa
open Go.RowKit

set_option maxRecDepth 100000 in
set_option maxHeartbeats 8000000 in
theorem implies_walk (N : Int) (H : List Int) (HA : Option Addr) (hc : Nat) (BL : List Bn) (BA : Option Addr) (bc : Nat) (M y0_ y1_ y2_ : Int) (l : List Int) (LA : Option Addr) (lc : Nat) (hN : In64 N) (hH : ∀ x ∈ H, In64 x) (hHl : H.length ≤ 9223372036854775807)
    (hB : ∀ r ∈ BL, In64 r.1 ∧ In64 r.2.1 ∧ In64 r.2.2) (hBl : BL.length ≤ 9223372036854775807) (h0 : In64 y0_) (h1 : In64 y1_) (h2 : In64 y2_) (hl : l.length ≤ lc ∧ lc ≤ 9223372036854775807) (w : World) (hr : Nums w w.heap.size HA H) (hb : Rds w w.heap.size BA BL) (hll : Nums w w.heap.size LA l) :
    Calls Try.prog 6 #[nmV N HA H.length hc BA BL.length bc M, .agg #[.int .i64 y0_, .int .i64 y1_, .int .i64 y2_], .slice LA l.length lc] w fun e w' => e = .returned (.bool true) ∧ Below w.heap.size w w' := by
  have z64 : In64 (0 : Int) := by decide
  have hsan := sane_any
  have hmad := fun W (b : Below w.heap.size w W) => made_any N H HA hc BL BA bc 0 hN hH hHl hB hBl z64 W (hr.deep b) (hb.deep b)
  have hhid := fun W (b : Below w.heap.size w W) => hidden_any N H HA hc BA BL.length bc 0 hN hH hHl W (hr.deep b)
  have hbs := made_okb N H BL 0
  have hfi := made_fineB (N := N) (H := H) (BL := BL) miss0
  have hfn := made_fine (N := N) (H := H) (BL := BL) miss0
  have hva := made_valid N H BL 0
  have hkeep := madeL_keeps (N := N) (H := H) (BL := BL) miss0
  have h268 : ∀ c ∈ madeL N H BL 0, -268 ≤ c.2.2 ∧ c.2.2 ≤ 268 := fun c hc => by have := madeL_mem N H BL 0 c hc; omega
  have hbd := hidL_all N H
  have hlen := hidL_len N H
  obtain ⟨n1, n8⟩ := hidN_bd N
  have hK := madeL_len N H BL 0
  generalize hidN N = n at *
  generalize hidL N H = hh at *
  generalize madeL N H BL 0 = bs at *
  have q1 := fun W => pick_any y0_ n h0.1 h0.2 (by omega) (by omega) W
  have q2 := fun W => pick_any y1_ n h1.1 h1.2 (by omega) (by omega) W
  have q3 := fun W => pick_any y2_ 60 h2.1 h2.2 (by omega) (by omega) W
  have r1 := pk_range (c := y0_) (n := (n : Int)) (by omega)
  have r2 := pk_range (c := y1_) (n := (n : Int)) (by omega)
  have r3 := pk_range (c := y2_) (n := 60) (by omega)
  generalize pk y0_ n = f at *
  generalize pk y1_ n = t at *
  generalize pk y2_ 60 = z at *
  obtain ⟨f, rfl⟩ := Int.eq_ofNat_of_zero_le r1.1
  obtain ⟨t, rfl⟩ := Int.eq_ofNat_of_zero_le r2.1
  have f2 : f < n := by omega
  have t2 : t < n := by omega
  obtain ⟨hf, hhf⟩ : ∃ y, hh[f]? = some y := at_lt (by rw [hlen]; exact f2)
  obtain ⟨ht, hht⟩ : ∃ y, hh[t]? = some y := at_lt (by rw [hlen]; exact t2)
  have gf := hbd _ (List.mem_of_getElem? hhf)
  have gt := hbd _ (List.mem_of_getElem? hht)
  obtain ⟨m, hm⟩ : ∃ m, m = ht - hf + z - 20 := ⟨_, rfl⟩
  have mb : -219 ≤ m ∧ m ≤ 238 := by omega
  have hF := implies_facts hbs hfi hfn hva hkeep h268 hlen hbd ⟨n1, n8⟩ hK f2 t2 hhf hht mb l LA lc hl
  obtain ⟨s_f, s_t, C1, ML, S0, him, hsol, hall, hsh, hck, hyes, hno, cSf, cSt, sfb, stb⟩ := hF
  have hll2 : Nums w w.heap.size LA (l.take 20) := hll.take 20
  obtain ⟨K, hK'⟩ : ∃ K, K = bs.length := ⟨_, rfl⟩
  rw [← hK'] at hmad him hsol hall hck hK
  simp only [← hK'] at hyes hno
  unfold nmV btw bnd at *
  dsimp only at him hck hyes hno
  have HSAN := Lib.hid hsan; have HMAD := Lib.hid hmad; have HHID := Lib.hid hhid; have HIM := Lib.hid him; have HSOL := Lib.hid hsol; have HALL := Lib.hid hall; have HCK := Lib.hid hck; have HSH := Lib.hid hsh
  have Q1 := Lib.hid q1; have Q2 := Lib.hid q2; have Q3 := Lib.hid q3; have HHF := Lib.hid hhf; have HHT := Lib.hid hht; have HM := Lib.hid hm; have LL := Lib.hid hll2; have CSF := Lib.hid cSf; have CST := Lib.hid cSt
  have HYES := Lib.hid hyes; have HNO := Lib.hid hno
  clear hm hsan hmad hhid him hsol hall hck hsh q1 q2 q3 hhf hht hbs hfi hfn hva hkeep h268 hbd hlen hll2 hK' hB hBl hN hH hHl hr hb hll z64 h0 h1 h2 hyes hno hl cSf cSt
  generalize BL.length = L at *
  generalize H.length = HL at *
  generalize l.take 20 = l2 at *
  generalize l.length = lL at *
  have X : Hid (Row ((w.alloc (.cells #[.int .i64 N, .slice HA HL hc, .slice BA L bc, .int .i64 M] 25)).alloc (.cells #[.int .i64 y0_, .int .i64 y1_, .int .i64 y2_] 57)) w.heap.size 25 #[.int .i64 N, .slice HA HL hc, .slice BA L bc, .int .i64 M]) := Lib.hid ((Row.made _ _ _).later _)
  have V : Hid (Row ((w.alloc (.cells #[.int .i64 N, .slice HA HL hc, .slice BA L bc, .int .i64 M] 25)).alloc (.cells #[.int .i64 y0_, .int .i64 y1_, .int .i64 y2_] 57)) (w.heap.size + 1) 57 #[.int .i64 y0_, .int .i64 y1_, .int .i64 y2_]) := Lib.hid (Row.made_at _ _ _ (by simp))
  have BW : Hid (Below w.heap.size w ((w.alloc (.cells #[.int .i64 N, .slice HA HL hc, .slice BA L bc, .int .i64 M] 25)).alloc (.cells #[.int .i64 y0_, .int .i64 y1_, .int .i64 y2_] 57))) := Lib.hid (keep_alloc (below_alloc _ _) _)
  go_enter Try.func6, Try.ntmps6
  go_upto_region 4 with (go_at_call 10; (with_reducible refine (HSAN.out _).mono ?_); rintro e w1 ⟨rfl, b⟩; ((try replace X := Lib.hid (X.out.step (below_step (by (repeat (first | exact Below.refl _ _ | refine keep_alloc ?_ _ | refine Below.drew ?_))) b))); (try replace V := Lib.hid (V.out.step (below_step (by (repeat (first | exact Below.refl _ _ | refine keep_alloc ?_ _ | refine Below.drew ?_))) b))); (try replace Y := Lib.hid (Y.out.step (below_step (by (repeat (first | exact Below.refl _ _ | refine keep_alloc ?_ _ | refine Below.drew ?_))) b))); (try replace E := Lib.hid (E.out.deep (below_step (by (repeat (first | exact Below.refl _ _ | refine keep_alloc ?_ _ | refine Below.drew ?_))) b))); (try replace Hh := Lib.hid (Hh.out.deep (below_step (by (repeat (first | exact Below.refl _ _ | refine keep_alloc ?_ _ | refine Below.drew ?_))) b))); (try replace P7 := Lib.hid (P7.out.step (below_step (by (repeat (first | exact Below.refl _ _ | refine keep_alloc ?_ _ | refine Below.drew ?_))) b))); (try replace D1 := Lib.hid (D1.out.step (below_step (by (repeat (first | exact Below.refl _ _ | refine keep_alloc ?_ _ | refine Below.drew ?_))) b))); (try replace D2 := Lib.hid (D2.out.step (below_step (by (repeat (first | exact Below.refl _ _ | refine keep_alloc ?_ _ | refine Below.drew ?_))) b))); (try replace E3 := Lib.hid (E3.out.deep (below_step (by (repeat (first | exact Below.refl _ _ | refine keep_alloc ?_ _ | refine Below.drew ?_))) b))); (try replace BW := Lib.hid (below_step BW.out (below_step (by (repeat (first | exact Below.refl _ _ | refine keep_alloc ?_ _ | refine Below.drew ?_))) b))); clear b); have fz := X.out.free 3; have x3 := X.out.at (i := 3) rfl)
  replace X := Lib.hid (X.out.stored 3 (.int .i64 0))
  replace V := Lib.hid (V.out.aside (p := ⟨w.heap.size, 3, none⟩) (show w.heap.size ≠ w.heap.size + 1 by omega) (.int .i64 0))
  replace BW := Lib.hid (BW.out.setCell (p := ⟨w.heap.size, 3, none⟩) (Nat.le_refl _) (.int .i64 0))
  clear fz
  obtain ⟨w2, hw2⟩ : ∃ w2, w2 = w1.setCell ⟨w.heap.size, 3, none⟩ (.int .i64 0) := ⟨_, rfl⟩
  rw [← hw2] at X V BW ⊢
  clear hw2
  ((try clear x0); (try clear x1); (try clear x2); (try clear x3); (try clear i1); have x0 := X.out.at (i := 0) rfl; have x1 := X.out.at (i := 1) rfl; have x2 := X.out.at (i := 2) rfl; have x3 := X.out.at (i := 3) rfl; have i1 := X.out.inside)
  go_upto_region 6 with (first
    | (go_at_call 12; (with_reducible refine (HMAD.out _ BW.out).mono ?_); rintro e w3 ⟨A, cap, rfl, r, b⟩; ((try replace X := Lib.hid (X.out.step (below_step (by (repeat (first | exact Below.refl _ _ | refine keep_alloc ?_ _ | refine Below.drew ?_))) b))); (try replace V := Lib.hid (V.out.step (below_step (by (repeat (first | exact Below.refl _ _ | refine keep_alloc ?_ _ | refine Below.drew ?_))) b))); (try replace Y := Lib.hid (Y.out.step (below_step (by (repeat (first | exact Below.refl _ _ | refine keep_alloc ?_ _ | refine Below.drew ?_))) b))); (try replace E := Lib.hid (E.out.deep (below_step (by (repeat (first | exact Below.refl _ _ | refine keep_alloc ?_ _ | refine Below.drew ?_))) b))); (try replace Hh := Lib.hid (Hh.out.deep (below_step (by (repeat (first | exact Below.refl _ _ | refine keep_alloc ?_ _ | refine Below.drew ?_))) b))); (try replace P7 := Lib.hid (P7.out.step (below_step (by (repeat (first | exact Below.refl _ _ | refine keep_alloc ?_ _ | refine Below.drew ?_))) b))); (try replace D1 := Lib.hid (D1.out.step (below_step (by (repeat (first | exact Below.refl _ _ | refine keep_alloc ?_ _ | refine Below.drew ?_))) b))); (try replace D2 := Lib.hid (D2.out.step (below_step (by (repeat (first | exact Below.refl _ _ | refine keep_alloc ?_ _ | refine Below.drew ?_))) b))); (try replace E3 := Lib.hid (E3.out.deep (below_step (by (repeat (first | exact Below.refl _ _ | refine keep_alloc ?_ _ | refine Below.drew ?_))) b))); (try replace BW := Lib.hid (below_step BW.out (below_step (by (repeat (first | exact Below.refl _ _ | refine keep_alloc ?_ _ | refine Below.drew ?_))) b))); clear b); have E := Lib.hid r; clear r; ((try clear x0); (try clear x1); (try clear x2); (try clear x3); (try clear i1); have x0 := X.out.at (i := 0) rfl; have x1 := X.out.at (i := 1) rfl; have x2 := X.out.at (i := 2) rfl; have x3 := X.out.at (i := 3) rfl; have i1 := X.out.inside); have Y := Lib.hid (Row.made w3 28 #[.int .i64 (n : Int), .slice A K cap]))
    | (go_at_call 26; (with_reducible refine (HHID.out _ (keep_alloc BW.out _)).mono ?_); rintro e w4 ⟨gh, hcap, rfl, r, b⟩; have yy := Y.out.step b; clear Y; ((try replace X := Lib.hid (X.out.step (below_step (by (repeat (first | exact Below.refl _ _ | refine keep_alloc ?_ _ | refine Below.drew ?_))) b))); (try replace V := Lib.hid (V.out.step (below_step (by (repeat (first | exact Below.refl _ _ | refine keep_alloc ?_ _ | refine Below.drew ?_))) b))); (try replace Y := Lib.hid (Y.out.step (below_step (by (repeat (first | exact Below.refl _ _ | refine keep_alloc ?_ _ | refine Below.drew ?_))) b))); (try replace E := Lib.hid (E.out.deep (below_step (by (repeat (first | exact Below.refl _ _ | refine keep_alloc ?_ _ | refine Below.drew ?_))) b))); (try replace Hh := Lib.hid (Hh.out.deep (below_step (by (repeat (first | exact Below.refl _ _ | refine keep_alloc ?_ _ | refine Below.drew ?_))) b))); (try replace P7 := Lib.hid (P7.out.step (below_step (by (repeat (first | exact Below.refl _ _ | refine keep_alloc ?_ _ | refine Below.drew ?_))) b))); (try replace D1 := Lib.hid (D1.out.step (below_step (by (repeat (first | exact Below.refl _ _ | refine keep_alloc ?_ _ | refine Below.drew ?_))) b))); (try replace D2 := Lib.hid (D2.out.step (below_step (by (repeat (first | exact Below.refl _ _ | refine keep_alloc ?_ _ | refine Below.drew ?_))) b))); (try replace E3 := Lib.hid (E3.out.deep (below_step (by (repeat (first | exact Below.refl _ _ | refine keep_alloc ?_ _ | refine Below.drew ?_))) b))); (try replace BW := Lib.hid (below_step BW.out (below_step (by (repeat (first | exact Below.refl _ _ | refine keep_alloc ?_ _ | refine Below.drew ?_))) b))); clear b); have Y := Lib.hid yy; have Hh := Lib.hid (own_intNums r); clear r yy; ((try clear y0); (try clear y1); (try clear i2); have y0 := Y.out.two.1; have y1 := Y.out.two.2.1; have i2 := Y.out.inside)))
  clear x0 x1 x2 x3 y0 y1 i1 i2
  have kk : ∀ W, Below w4.heap.size w4 W → (Below w4.heap.size w4 W ∧ W.cell? ⟨w.heap.size + 1, 0, none⟩ = some (.int .i64 y0_) ∧ W.cell? ⟨w.heap.size + 1, 1, none⟩ = some (.int .i64 y1_) ∧ W.cell? ⟨w3.heap.size, 0, none⟩ = some (.int .i64 (n : Int))) := fun W b => ⟨b, (V.out.step b).at (i := 0) rfl, (V.out.step b).at (i := 1) rfl, (Y.out.step b).two.1⟩
  have KK := Lib.hid kk
  clear kk
  go_cut [9] (fun s9 W => s9 = .pointer (some ⟨w4.heap.size, 0, none⟩) ∧ Row W w4.heap.size 30 #[.int .i64 (f : Int), .int .i64 (t : Int), .int .i64 0] ∧ Below w4.heap.size w4 W)
  case first =>
    go_region_held3 (fun W => Below w4.heap.size w4 W ∧ W.cell? ⟨w.heap.size + 1, 0, none⟩ = some (.int .i64 y0_) ∧ W.cell? ⟨w.heap.size + 1, 1, none⟩ = some (.int .i64 y1_) ∧ W.cell? ⟨w3.heap.size, 0, none⟩ = some (.int .i64 (n : Int)))
      (first | assumption | exact KK.out _ (Below.refl _ _) | exact KK.out _ ((Below.refl _ _).drew) | exact KK.out _ (below_alloc _ _) | exact KK.out _ (keep_alloc ((Below.refl _ _).drew) _) | exact KK.out _ ((below_alloc _ _).drew) | exact KK.out _ (keep_alloc (And.left (by assumption)) _) | exact KK.out _ ((And.left (by assumption)).drew) | fail)
      (first | (go_at_call 13; (first | ((with_reducible refine (Q1.out _).mono ?_); rintro e wx ⟨rfl, hwx⟩; have hwx := hwx.symm; subst hwx) | ((with_reducible refine (Q2.out _).mono ?_); rintro e wx ⟨rfl, hwx⟩; have hwx := hwx.symm; subst hwx))) | fail)
    all_goals go_wp2_with fail
    all_goals go_meet
    all_goals (case rel => exact ⟨rfl, by first | exact (Row.made _ _ _).drawn | exact Row.made _ _ _, by first | exact (below_alloc _ _).drew | exact keep_alloc ((Below.refl _ _).drew) _⟩)
  case rest =>
    obtain ⟨rfl, rP, hbw⟩ := hcut
    have RP := Lib.hid rP; have HBW := Lib.hid hbw
    obtain ⟨s0, s1, s2, s3, s4, s5⟩ := rP.three
    have c1 := nums_cell (Hh.out.deep hbw) HHF.out
    have c2 := nums_cell (Hh.out.deep hbw) HHT.out
    have v2 := (V.out.step hbw).at (i := 2) rfl
    have w1' : IntKind.i64.wrap (ht - hf) = ht - hf := IntWalk.i64_in _ (by omega)
    have w2' : IntKind.i64.wrap (ht - hf + z) = ht - hf + z := IntWalk.i64_in _ (by omega)
    have w3' : IntKind.i64.wrap (ht - hf + z - 20) = ht - hf + z - 20 := IntWalk.i64_in _ (by omega)
    have fn : (f : Int) < (n : Int) := by omega
    have tn : (t : Int) < (n : Int) := by omega
    clear rP hbw
    go_upto_region 7 with (fail)
    refine wp_region_still_tail 17 (by kernel_rfl) (by kernel_rfl) ?_
    simp only [List.take_succ_cons, List.take_zero, List.drop_succ_cons, List.drop_zero]
    repeat (first | still_step | still_call (Q3.out _))
    try refine wpStill_nil ?_
    change wpList _ _ _ _ _ wc.drew
    clear c1 c2 s0 s1 v2 w1' w2' w3'
    go_upto_region 8 with (fail)
    obtain ⟨W7, hW7⟩ : ∃ W7, W7 = (wc.setCell ⟨w4.heap.size, 2, none⟩ (.int .i64 (ht - hf + z - 20))).drew := ⟨_, rfl⟩
    rw [← hW7]
    have b : Below w4.heap.size w4 W7 := by rw [hW7]; exact (HBW.out.setCell (p := ⟨w4.heap.size, 2, none⟩) (Nat.le_refl _) _).drew
    have P7 : Hid (Row W7 w4.heap.size 30 #[.int .i64 (f : Int), .int .i64 (t : Int), .int .i64 m]) := Lib.hid (by rw [hW7, HM.out]; exact (RP.out.stored 2 _).drawn)
    clear hW7 s2 s3 s4 s5 RP
    replace X := Lib.hid (X.out.step b); replace V := Lib.hid (V.out.step b); replace Y := Lib.hid (Y.out.step b); replace E := Lib.hid (E.out.deep b); replace Hh := Lib.hid (Hh.out.deep b); replace BW := Lib.hid (below_step BW.out b)
    clear b
    ((try clear y0); (try clear y1); (try clear i2); have y0 := Y.out.two.1; have y1 := Y.out.two.2.1; have i2 := Y.out.inside)
    ((try clear p0); (try clear p1); (try clear p2); (try clear i7); have p0 := P7.out.at (i := 0) rfl; have p1 := P7.out.at (i := 1) rfl; have p2 := P7.out.at (i := 2) rfl; have i7 := P7.out.inside)
    have ll := LL.out.deep BW.out
    replace LL := Lib.hid ll
    clear ll
    cases hso : shO bs n (f : Int) (t : Int) m with
    | none =>
      have hno := HNO.out hso
      obtain ⟨t_f, t_t, b2, tfb, ttb, tgt, hc1, T2, hT2f, hT2t, hsol2, hall2, hwi⟩ := hno
      subst hc1
      have HSO := Lib.hid hso; have HT2F := Lib.hid hT2f; have HT2T := Lib.hid hT2t; have HSOL2 := Lib.hid hsol2; have HALL2 := Lib.hid hall2; have HWI := Lib.hid hwi
      clear hso hT2f hT2t hsol2 hall2 hwi HNO HYES
      go_upto_region 12 with (first
        | (go_at_call 33; (with_reducible refine (HIM.out _ _ _ E.out).mono ?_); rintro e w8 hp; have hp2 := ShPost.none HSO.out hp; obtain ⟨rfl, b⟩ := hp2; clear hp; ((try replace X := Lib.hid (X.out.step (below_step (by (repeat (first | exact Below.refl _ _ | refine keep_alloc ?_ _ | refine Below.drew ?_))) b))); (try replace Y := Lib.hid (Y.out.step (below_step (by (repeat (first | exact Below.refl _ _ | refine keep_alloc ?_ _ | refine Below.drew ?_))) b))); (try replace E := Lib.hid (E.out.deep (below_step (by (repeat (first | exact Below.refl _ _ | refine keep_alloc ?_ _ | refine Below.drew ?_))) b))); (try replace Hh := Lib.hid (Hh.out.deep (below_step (by (repeat (first | exact Below.refl _ _ | refine keep_alloc ?_ _ | refine Below.drew ?_))) b))); (try replace P7 := Lib.hid (P7.out.step (below_step (by (repeat (first | exact Below.refl _ _ | refine keep_alloc ?_ _ | refine Below.drew ?_))) b))); (try replace S := Lib.hid (S.out.deep (below_step (by (repeat (first | exact Below.refl _ _ | refine keep_alloc ?_ _ | refine Below.drew ?_))) b))); (try replace T := Lib.hid (T.out.deep (below_step (by (repeat (first | exact Below.refl _ _ | refine keep_alloc ?_ _ | refine Below.drew ?_))) b))); (try replace LL := Lib.hid (LL.out.deep (below_step (by (repeat (first | exact Below.refl _ _ | refine keep_alloc ?_ _ | refine Below.drew ?_))) b))); (try replace CH := Lib.hid (CH.out.deep (below_step (by (repeat (first | exact Below.refl _ _ | refine keep_alloc ?_ _ | refine Below.drew ?_))) b))); (try replace E3 := Lib.hid (E3.out.deep (below_step (by (repeat (first | exact Below.refl _ _ | refine keep_alloc ?_ _ | refine Below.drew ?_))) b))); (try replace BW := Lib.hid (below_step BW.out (below_step (by (repeat (first | exact Below.refl _ _ | refine keep_alloc ?_ _ | refine Below.drew ?_))) b))); clear b); ((try clear y0); (try clear y1); (try clear i2); have y0 := Y.out.two.1; have y1 := Y.out.two.2.1; have i2 := Y.out.inside); ((try clear p0); (try clear p1); (try clear p2); (try clear i7); have p0 := P7.out.at (i := 0) rfl; have p1 := P7.out.at (i := 1) rfl; have p2 := P7.out.at (i := 2) rfl; have i7 := P7.out.inside))
        | (go_at_call 18; (with_reducible refine (HSOL.out _ _ _ E.out).mono ?_); rintro e w9 ⟨s, rfl, r, b⟩; ((try replace X := Lib.hid (X.out.step (below_step (by (repeat (first | exact Below.refl _ _ | refine keep_alloc ?_ _ | refine Below.drew ?_))) b))); (try replace Y := Lib.hid (Y.out.step (below_step (by (repeat (first | exact Below.refl _ _ | refine keep_alloc ?_ _ | refine Below.drew ?_))) b))); (try replace E := Lib.hid (E.out.deep (below_step (by (repeat (first | exact Below.refl _ _ | refine keep_alloc ?_ _ | refine Below.drew ?_))) b))); (try replace Hh := Lib.hid (Hh.out.deep (below_step (by (repeat (first | exact Below.refl _ _ | refine keep_alloc ?_ _ | refine Below.drew ?_))) b))); (try replace P7 := Lib.hid (P7.out.step (below_step (by (repeat (first | exact Below.refl _ _ | refine keep_alloc ?_ _ | refine Below.drew ?_))) b))); (try replace S := Lib.hid (S.out.deep (below_step (by (repeat (first | exact Below.refl _ _ | refine keep_alloc ?_ _ | refine Below.drew ?_))) b))); (try replace T := Lib.hid (T.out.deep (below_step (by (repeat (first | exact Below.refl _ _ | refine keep_alloc ?_ _ | refine Below.drew ?_))) b))); (try replace LL := Lib.hid (LL.out.deep (below_step (by (repeat (first | exact Below.refl _ _ | refine keep_alloc ?_ _ | refine Below.drew ?_))) b))); (try replace CH := Lib.hid (CH.out.deep (below_step (by (repeat (first | exact Below.refl _ _ | refine keep_alloc ?_ _ | refine Below.drew ?_))) b))); (try replace E3 := Lib.hid (E3.out.deep (below_step (by (repeat (first | exact Below.refl _ _ | refine keep_alloc ?_ _ | refine Below.drew ?_))) b))); (try replace BW := Lib.hid (below_step BW.out (below_step (by (repeat (first | exact Below.refl _ _ | refine keep_alloc ?_ _ | refine Below.drew ?_))) b))); clear b); have S := Lib.hid r; clear r; ((try clear y0); (try clear y1); (try clear i2); have y0 := Y.out.two.1; have y1 := Y.out.two.2.1; have i2 := Y.out.inside); ((try clear p0); (try clear p1); (try clear p2); (try clear i7); have p0 := P7.out.at (i := 0) rfl; have p1 := P7.out.at (i := 1) rfl; have p2 := P7.out.at (i := 2) rfl; have i7 := P7.out.inside))
        | (go_at_call 27; (with_reducible refine (HALL.out _ _ _ _ _ E.out Hh.out).mono ?_); rintro e w10 ⟨rfl, b⟩; ((try replace X := Lib.hid (X.out.step (below_step (by (repeat (first | exact Below.refl _ _ | refine keep_alloc ?_ _ | refine Below.drew ?_))) b))); (try replace Y := Lib.hid (Y.out.step (below_step (by (repeat (first | exact Below.refl _ _ | refine keep_alloc ?_ _ | refine Below.drew ?_))) b))); (try replace E := Lib.hid (E.out.deep (below_step (by (repeat (first | exact Below.refl _ _ | refine keep_alloc ?_ _ | refine Below.drew ?_))) b))); (try replace Hh := Lib.hid (Hh.out.deep (below_step (by (repeat (first | exact Below.refl _ _ | refine keep_alloc ?_ _ | refine Below.drew ?_))) b))); (try replace P7 := Lib.hid (P7.out.step (below_step (by (repeat (first | exact Below.refl _ _ | refine keep_alloc ?_ _ | refine Below.drew ?_))) b))); (try replace S := Lib.hid (S.out.deep (below_step (by (repeat (first | exact Below.refl _ _ | refine keep_alloc ?_ _ | refine Below.drew ?_))) b))); (try replace T := Lib.hid (T.out.deep (below_step (by (repeat (first | exact Below.refl _ _ | refine keep_alloc ?_ _ | refine Below.drew ?_))) b))); (try replace LL := Lib.hid (LL.out.deep (below_step (by (repeat (first | exact Below.refl _ _ | refine keep_alloc ?_ _ | refine Below.drew ?_))) b))); (try replace CH := Lib.hid (CH.out.deep (below_step (by (repeat (first | exact Below.refl _ _ | refine keep_alloc ?_ _ | refine Below.drew ?_))) b))); (try replace E3 := Lib.hid (E3.out.deep (below_step (by (repeat (first | exact Below.refl _ _ | refine keep_alloc ?_ _ | refine Below.drew ?_))) b))); (try replace BW := Lib.hid (below_step BW.out (below_step (by (repeat (first | exact Below.refl _ _ | refine keep_alloc ?_ _ | refine Below.drew ?_))) b))); clear b); ((try clear y0); (try clear y1); (try clear i2); have y0 := Y.out.two.1; have y1 := Y.out.two.2.1; have i2 := Y.out.inside); ((try clear p0); (try clear p1); (try clear p2); (try clear i7); have p0 := P7.out.at (i := 0) rfl; have p1 := P7.out.at (i := 1) rfl; have p2 := P7.out.at (i := 2) rfl; have i7 := P7.out.inside)))
      have c1 := nums_cell Hh.out HHF.out
      have c2 := nums_cell Hh.out HHT.out
      have c3 := nums_cell S.out CSF.out
      have c4 := nums_cell S.out CST.out
      have w1' : IntKind.i64.wrap (ht - hf) = ht - hf := IntWalk.i64_in _ (by omega)
      have w2' : IntKind.i64.wrap (s_t - s_f) = s_t - s_f := IntWalk.i64_in _ (by omega)
      go_cut [14] (fun s14 W => ∃ q : Bool, s14 = .bool q ∧ Below w10.heap.size w10 W)
      case first =>
        obtain ⟨d1, hd1⟩ : ∃ d1, d1 = decide (ht - hf ≤ m) := ⟨_, rfl⟩
        replace hd1 := hd1.symm
        cases d1
        · (go_quiet (fail); go_wp2_with fail; go_meet; case rel => exact ⟨_, rfl, below_drawnN (Below.refl _ _) _⟩)
        · obtain ⟨d2, hd2⟩ : ∃ d2, d2 = decide (s_t - s_f ≤ m) := ⟨_, rfl⟩
          replace hd2 := hd2.symm
          cases d2
          all_goals (go_quiet (fail); go_wp2_with fail; go_meet; case rel => exact ⟨_, rfl, below_drawnN (Below.refl _ _) _⟩)
      case rest =>
        obtain ⟨q, rfl, hbw⟩ := hcut
        clear c1 c2 c3 c4 w1' w2'
        have b := hbw
        clear hbw
        replace X := Lib.hid (X.out.step b); replace Y := Lib.hid (Y.out.step b); replace E := Lib.hid (E.out.deep b); replace Hh := Lib.hid (Hh.out.deep b); replace P7 := Lib.hid (P7.out.step b); replace S := Lib.hid (S.out.deep b); replace LL := Lib.hid (LL.out.deep b); replace BW := Lib.hid (below_step BW.out b)
        clear b
        ((try clear y0); (try clear y1); (try clear i2); have y0 := Y.out.two.1; have y1 := Y.out.two.2.1; have i2 := Y.out.inside)
        ((try clear p0); (try clear p1); (try clear p2); (try clear i7); have p0 := P7.out.at (i := 0) rfl; have p1 := P7.out.at (i := 1) rfl; have p2 := P7.out.at (i := 2) rfl; have i7 := P7.out.inside)
        have hck2 := fun W (b : Below wc.heap.size wc W) => HCK.out _ cap W (E.out.deep b) (LL.out.deep b)
        have hsh2 := fun W (_ : Below wc.heap.size wc W) => HSH.out W
        have HCK2 := Lib.hid hck2; have HSH2 := Lib.hid hsh2
        clear hck2 hsh2
        go_upto_region 13 with (fail)
        go_cut [114] (fun s114 W => s114 = .bool false ∧ Below wc.heap.size wc W)
        case first =>
          have g0 := cell_regrown y0
          have g1 := cell_regrown y1
          have g2 := cell_regrown p0
          have g3 := cell_regrown p1
          have g4 := cell_regrown p2
          clear y0 y1 p0 p1 p2
          refine wp_region_quiet_below (by kernel_rfl) (by kernel_rfl) ?_
          repeat (go_big_quiet_step (first | exact Calls.regrown_of (HSH2.out _ (below_regrown _ _ _)) | exact Calls.regrown_of (HCK2.out _ (below_regrown _ _ _))))
          refine wpQuiet_nil ?_
          intro _ hw'
          obtain ⟨⟨dq, osq⟩, hw''⟩ := hw'
          subst hw''
          go_wp2_with fail
          go_meet
          case rel => exact ⟨rfl, below_regrown _ _ _⟩
        case rest =>
          obtain ⟨rfl, hbw⟩ := hcut
          have b := hbw
          clear hbw y0 y1 i2 p0 p1 p2 i7 S Hh X LL HCK2 HSH2 HCK HSH
          replace Y := Lib.hid (Y.out.step b); replace E := Lib.hid (E.out.deep b); replace P7 := Lib.hid (P7.out.step b); replace BW := Lib.hid (below_step BW.out b)
          clear b
          ((try clear y0); (try clear y1); (try clear i2); have y0 := Y.out.two.1; have y1 := Y.out.two.2.1; have i2 := Y.out.inside)
          ((try clear p0); (try clear p1); (try clear p2); (try clear i7); have p0 := P7.out.at (i := 0) rfl; have p1 := P7.out.at (i := 1) rfl; have p2 := P7.out.at (i := 2) rfl; have i7 := P7.out.inside)
          have nw : IntKind.i64.wrap (-m) = -m := IntWalk.i64_in _ (by omega)
          have nw1 : IntKind.i64.wrap (-m - 1) = -m - 1 := IntWalk.i64_in _ (by omega)
          go_upto_region 19 with (first
            | (go_at_call 36; (with_reducible refine (HWI.out _ _ _ E.out).mono ?_); rintro e w13 ⟨A3, cap3, rfl, r, b⟩; ((try replace X := Lib.hid (X.out.step (below_step (by (repeat (first | exact Below.refl _ _ | refine keep_alloc ?_ _ | refine Below.drew ?_))) b))); (try replace Y := Lib.hid (Y.out.step (below_step (by (repeat (first | exact Below.refl _ _ | refine keep_alloc ?_ _ | refine Below.drew ?_))) b))); (try replace E := Lib.hid (E.out.deep (below_step (by (repeat (first | exact Below.refl _ _ | refine keep_alloc ?_ _ | refine Below.drew ?_))) b))); (try replace Hh := Lib.hid (Hh.out.deep (below_step (by (repeat (first | exact Below.refl _ _ | refine keep_alloc ?_ _ | refine Below.drew ?_))) b))); (try replace P7 := Lib.hid (P7.out.step (below_step (by (repeat (first | exact Below.refl _ _ | refine keep_alloc ?_ _ | refine Below.drew ?_))) b))); (try replace S := Lib.hid (S.out.deep (below_step (by (repeat (first | exact Below.refl _ _ | refine keep_alloc ?_ _ | refine Below.drew ?_))) b))); (try replace T := Lib.hid (T.out.deep (below_step (by (repeat (first | exact Below.refl _ _ | refine keep_alloc ?_ _ | refine Below.drew ?_))) b))); (try replace LL := Lib.hid (LL.out.deep (below_step (by (repeat (first | exact Below.refl _ _ | refine keep_alloc ?_ _ | refine Below.drew ?_))) b))); (try replace CH := Lib.hid (CH.out.deep (below_step (by (repeat (first | exact Below.refl _ _ | refine keep_alloc ?_ _ | refine Below.drew ?_))) b))); (try replace E3 := Lib.hid (E3.out.deep (below_step (by (repeat (first | exact Below.refl _ _ | refine keep_alloc ?_ _ | refine Below.drew ?_))) b))); (try replace BW := Lib.hid (below_step BW.out (below_step (by (repeat (first | exact Below.refl _ _ | refine keep_alloc ?_ _ | refine Below.drew ?_))) b))); clear b); have E3 := Lib.hid r; clear r; ((try clear y0); (try clear y1); (try clear i2); have y0 := Y.out.two.1; have y1 := Y.out.two.2.1; have i2 := Y.out.inside); ((try clear p0); (try clear p1); (try clear p2); (try clear i7); have p0 := P7.out.at (i := 0) rfl; have p1 := P7.out.at (i := 1) rfl; have p2 := P7.out.at (i := 2) rfl; have i7 := P7.out.inside))
            | (go_at_call 18; (with_reducible refine (HSOL2.out _ _ _ (E3.out.deep (below_alloc _ _))).mono ?_); rintro e w14 ⟨s2, rfl, r, b⟩; ((try replace X := Lib.hid (X.out.step (below_step (by (repeat (first | exact Below.refl _ _ | refine keep_alloc ?_ _ | refine Below.drew ?_))) b))); (try replace Y := Lib.hid (Y.out.step (below_step (by (repeat (first | exact Below.refl _ _ | refine keep_alloc ?_ _ | refine Below.drew ?_))) b))); (try replace E := Lib.hid (E.out.deep (below_step (by (repeat (first | exact Below.refl _ _ | refine keep_alloc ?_ _ | refine Below.drew ?_))) b))); (try replace Hh := Lib.hid (Hh.out.deep (below_step (by (repeat (first | exact Below.refl _ _ | refine keep_alloc ?_ _ | refine Below.drew ?_))) b))); (try replace P7 := Lib.hid (P7.out.step (below_step (by (repeat (first | exact Below.refl _ _ | refine keep_alloc ?_ _ | refine Below.drew ?_))) b))); (try replace S := Lib.hid (S.out.deep (below_step (by (repeat (first | exact Below.refl _ _ | refine keep_alloc ?_ _ | refine Below.drew ?_))) b))); (try replace T := Lib.hid (T.out.deep (below_step (by (repeat (first | exact Below.refl _ _ | refine keep_alloc ?_ _ | refine Below.drew ?_))) b))); (try replace LL := Lib.hid (LL.out.deep (below_step (by (repeat (first | exact Below.refl _ _ | refine keep_alloc ?_ _ | refine Below.drew ?_))) b))); (try replace CH := Lib.hid (CH.out.deep (below_step (by (repeat (first | exact Below.refl _ _ | refine keep_alloc ?_ _ | refine Below.drew ?_))) b))); (try replace E3 := Lib.hid (E3.out.deep (below_step (by (repeat (first | exact Below.refl _ _ | refine keep_alloc ?_ _ | refine Below.drew ?_))) b))); (try replace BW := Lib.hid (below_step BW.out (below_step (by (repeat (first | exact Below.refl _ _ | refine keep_alloc ?_ _ | refine Below.drew ?_))) b))); clear b); have T := Lib.hid r; clear r; ((try clear y0); (try clear y1); (try clear i2); have y0 := Y.out.two.1; have y1 := Y.out.two.2.1; have i2 := Y.out.inside); ((try clear p0); (try clear p1); (try clear p2); (try clear i7); have p0 := P7.out.at (i := 0) rfl; have p1 := P7.out.at (i := 1) rfl; have p2 := P7.out.at (i := 2) rfl; have i7 := P7.out.inside)))
          have c1 := nums_cell T.out HT2F.out
          have c2 := nums_cell T.out HT2T.out
          have w1' : IntKind.i64.wrap (t_t - t_f) = t_t - t_f := IntWalk.i64_in _ (by omega)
          have hgt : decide (t_t - t_f > m) = true := decide_eq_true (by omega)
          have hal2 := fun W (b : Below w14.heap.size w14 W) => HALL2.out _ cap _ n W (E.out.deep b) (T.out.deep b)
          have HAL2 := Lib.hid hal2
          clear hal2 nw nw1
          go_cut [6] (fun s6 W => s6 = .bool true ∧ Below w14.heap.size w14 W)
          case first =>
            have g0 := cell_regrown y0
            have g1 := cell_regrown y1
            have g2 := cell_regrown p0
            have g3 := cell_regrown p1
            have g4 := cell_regrown p2
            have g5 := cell_regrown c1
            have g6 := cell_regrown c2
            clear y0 y1 p0 p1 p2 c1 c2
            refine wp_region_quiet_below (by kernel_rfl) (by kernel_rfl) ?_
            repeat (go_big_quiet_step (exact Calls.regrown_of (HAL2.out _ (below_regrown _ _ _))))
            refine wpQuiet_nil ?_
            intro _ hw'
            obtain ⟨⟨dq, osq⟩, hw''⟩ := hw'
            subst hw''
            go_wp2_with fail
            go_meet
            case rel => exact ⟨rfl, below_regrown _ _ _⟩
          case rest =>
            obtain ⟨rfl, hbw⟩ := hcut
            go_wp2
            go_ret
            exact ⟨rfl, below_step BW.out hbw⟩
    | some ch =>
      have hye := HYES.out ch hso
      obtain ⟨⟨k1, k2⟩, hyi, hyc⟩ := hye
      have HYI := Lib.hid hyi; have HYC := Lib.hid hyc
      clear hyi hyc hso HNO HYES
      have w1' : IntKind.i64.wrap (ht - hf) = ht - hf := IntWalk.i64_in _ (by omega)
      have w2' : IntKind.i64.wrap (s_t - s_f) = s_t - s_f := IntWalk.i64_in _ (by omega)
      have hd1 : decide (ht - hf ≤ m) = true := decide_eq_true k1
      have hd2 : decide (s_t - s_f ≤ m) = true := decide_eq_true k2
      generalize ch.length = cl at *
      go_upto_region 12 with (first
        | (go_at_call 33; (with_reducible refine (HIM.out _ _ _ E.out).mono ?_); rintro e w8 hp; have hp2 := HYI.out _ _ _ hp; obtain ⟨gc, cc, rfl, r, b⟩ := hp2; clear hp; ((try replace X := Lib.hid (X.out.step (below_step (by (repeat (first | exact Below.refl _ _ | refine keep_alloc ?_ _ | refine Below.drew ?_))) b))); (try replace Y := Lib.hid (Y.out.step (below_step (by (repeat (first | exact Below.refl _ _ | refine keep_alloc ?_ _ | refine Below.drew ?_))) b))); (try replace E := Lib.hid (E.out.deep (below_step (by (repeat (first | exact Below.refl _ _ | refine keep_alloc ?_ _ | refine Below.drew ?_))) b))); (try replace Hh := Lib.hid (Hh.out.deep (below_step (by (repeat (first | exact Below.refl _ _ | refine keep_alloc ?_ _ | refine Below.drew ?_))) b))); (try replace P7 := Lib.hid (P7.out.step (below_step (by (repeat (first | exact Below.refl _ _ | refine keep_alloc ?_ _ | refine Below.drew ?_))) b))); (try replace S := Lib.hid (S.out.deep (below_step (by (repeat (first | exact Below.refl _ _ | refine keep_alloc ?_ _ | refine Below.drew ?_))) b))); (try replace T := Lib.hid (T.out.deep (below_step (by (repeat (first | exact Below.refl _ _ | refine keep_alloc ?_ _ | refine Below.drew ?_))) b))); (try replace LL := Lib.hid (LL.out.deep (below_step (by (repeat (first | exact Below.refl _ _ | refine keep_alloc ?_ _ | refine Below.drew ?_))) b))); (try replace CH := Lib.hid (CH.out.deep (below_step (by (repeat (first | exact Below.refl _ _ | refine keep_alloc ?_ _ | refine Below.drew ?_))) b))); (try replace E3 := Lib.hid (E3.out.deep (below_step (by (repeat (first | exact Below.refl _ _ | refine keep_alloc ?_ _ | refine Below.drew ?_))) b))); (try replace BW := Lib.hid (below_step BW.out (below_step (by (repeat (first | exact Below.refl _ _ | refine keep_alloc ?_ _ | refine Below.drew ?_))) b))); clear b); have CH := Lib.hid r; clear r; ((try clear y0); (try clear y1); (try clear i2); have y0 := Y.out.two.1; have y1 := Y.out.two.2.1; have i2 := Y.out.inside); ((try clear p0); (try clear p1); (try clear p2); (try clear i7); have p0 := P7.out.at (i := 0) rfl; have p1 := P7.out.at (i := 1) rfl; have p2 := P7.out.at (i := 2) rfl; have i7 := P7.out.inside))
        | (go_at_call 18; (with_reducible refine (HSOL.out _ _ _ E.out).mono ?_); rintro e w9 ⟨s, rfl, r, b⟩; ((try replace X := Lib.hid (X.out.step (below_step (by (repeat (first | exact Below.refl _ _ | refine keep_alloc ?_ _ | refine Below.drew ?_))) b))); (try replace Y := Lib.hid (Y.out.step (below_step (by (repeat (first | exact Below.refl _ _ | refine keep_alloc ?_ _ | refine Below.drew ?_))) b))); (try replace E := Lib.hid (E.out.deep (below_step (by (repeat (first | exact Below.refl _ _ | refine keep_alloc ?_ _ | refine Below.drew ?_))) b))); (try replace Hh := Lib.hid (Hh.out.deep (below_step (by (repeat (first | exact Below.refl _ _ | refine keep_alloc ?_ _ | refine Below.drew ?_))) b))); (try replace P7 := Lib.hid (P7.out.step (below_step (by (repeat (first | exact Below.refl _ _ | refine keep_alloc ?_ _ | refine Below.drew ?_))) b))); (try replace S := Lib.hid (S.out.deep (below_step (by (repeat (first | exact Below.refl _ _ | refine keep_alloc ?_ _ | refine Below.drew ?_))) b))); (try replace T := Lib.hid (T.out.deep (below_step (by (repeat (first | exact Below.refl _ _ | refine keep_alloc ?_ _ | refine Below.drew ?_))) b))); (try replace LL := Lib.hid (LL.out.deep (below_step (by (repeat (first | exact Below.refl _ _ | refine keep_alloc ?_ _ | refine Below.drew ?_))) b))); (try replace CH := Lib.hid (CH.out.deep (below_step (by (repeat (first | exact Below.refl _ _ | refine keep_alloc ?_ _ | refine Below.drew ?_))) b))); (try replace E3 := Lib.hid (E3.out.deep (below_step (by (repeat (first | exact Below.refl _ _ | refine keep_alloc ?_ _ | refine Below.drew ?_))) b))); (try replace BW := Lib.hid (below_step BW.out (below_step (by (repeat (first | exact Below.refl _ _ | refine keep_alloc ?_ _ | refine Below.drew ?_))) b))); clear b); have S := Lib.hid r; clear r; ((try clear y0); (try clear y1); (try clear i2); have y0 := Y.out.two.1; have y1 := Y.out.two.2.1; have i2 := Y.out.inside); ((try clear p0); (try clear p1); (try clear p2); (try clear i7); have p0 := P7.out.at (i := 0) rfl; have p1 := P7.out.at (i := 1) rfl; have p2 := P7.out.at (i := 2) rfl; have i7 := P7.out.inside))
        | (go_at_call 27; (with_reducible refine (HALL.out _ _ _ _ _ E.out Hh.out).mono ?_); rintro e w10 ⟨rfl, b⟩; ((try replace X := Lib.hid (X.out.step (below_step (by (repeat (first | exact Below.refl _ _ | refine keep_alloc ?_ _ | refine Below.drew ?_))) b))); (try replace Y := Lib.hid (Y.out.step (below_step (by (repeat (first | exact Below.refl _ _ | refine keep_alloc ?_ _ | refine Below.drew ?_))) b))); (try replace E := Lib.hid (E.out.deep (below_step (by (repeat (first | exact Below.refl _ _ | refine keep_alloc ?_ _ | refine Below.drew ?_))) b))); (try replace Hh := Lib.hid (Hh.out.deep (below_step (by (repeat (first | exact Below.refl _ _ | refine keep_alloc ?_ _ | refine Below.drew ?_))) b))); (try replace P7 := Lib.hid (P7.out.step (below_step (by (repeat (first | exact Below.refl _ _ | refine keep_alloc ?_ _ | refine Below.drew ?_))) b))); (try replace S := Lib.hid (S.out.deep (below_step (by (repeat (first | exact Below.refl _ _ | refine keep_alloc ?_ _ | refine Below.drew ?_))) b))); (try replace T := Lib.hid (T.out.deep (below_step (by (repeat (first | exact Below.refl _ _ | refine keep_alloc ?_ _ | refine Below.drew ?_))) b))); (try replace LL := Lib.hid (LL.out.deep (below_step (by (repeat (first | exact Below.refl _ _ | refine keep_alloc ?_ _ | refine Below.drew ?_))) b))); (try replace CH := Lib.hid (CH.out.deep (below_step (by (repeat (first | exact Below.refl _ _ | refine keep_alloc ?_ _ | refine Below.drew ?_))) b))); (try replace E3 := Lib.hid (E3.out.deep (below_step (by (repeat (first | exact Below.refl _ _ | refine keep_alloc ?_ _ | refine Below.drew ?_))) b))); (try replace BW := Lib.hid (below_step BW.out (below_step (by (repeat (first | exact Below.refl _ _ | refine keep_alloc ?_ _ | refine Below.drew ?_))) b))); clear b); ((try clear y0); (try clear y1); (try clear i2); have y0 := Y.out.two.1; have y1 := Y.out.two.2.1; have i2 := Y.out.inside); ((try clear p0); (try clear p1); (try clear p2); (try clear i7); have p0 := P7.out.at (i := 0) rfl; have p1 := P7.out.at (i := 1) rfl; have p2 := P7.out.at (i := 2) rfl; have i7 := P7.out.inside)))
      have c1 := nums_cell Hh.out HHF.out
      have c2 := nums_cell Hh.out HHT.out
      have c3 := nums_cell S.out CSF.out
      have c4 := nums_cell S.out CST.out
      go_cut [14] (fun s14 W => s14 = .bool true ∧ Below w10.heap.size w10 W)
      case first => (go_quiet (fail); go_wp2_with fail; go_meet; case rel => exact ⟨rfl, below_drawnN (Below.refl _ _) _⟩)
      case rest =>
        obtain ⟨rfl, hbw⟩ := hcut
        clear c1 c2 c3 c4 w1' w2' hd1 hd2
        have b := hbw
        clear hbw
        replace X := Lib.hid (X.out.step b); replace Y := Lib.hid (Y.out.step b); replace E := Lib.hid (E.out.deep b); replace Hh := Lib.hid (Hh.out.deep b); replace P7 := Lib.hid (P7.out.step b); replace S := Lib.hid (S.out.deep b); replace LL := Lib.hid (LL.out.deep b); replace CH := Lib.hid (CH.out.deep b); replace BW := Lib.hid (below_step BW.out b)
        clear b
        ((try clear y0); (try clear y1); (try clear i2); have y0 := Y.out.two.1; have y1 := Y.out.two.2.1; have i2 := Y.out.inside)
        ((try clear p0); (try clear p1); (try clear p2); (try clear i7); have p0 := P7.out.at (i := 0) rfl; have p1 := P7.out.at (i := 1) rfl; have p2 := P7.out.at (i := 2) rfl; have i7 := P7.out.inside)
        have hck2 := fun W (b : Below wc.heap.size wc W) => HCK.out _ cap W (E.out.deep b) (LL.out.deep b)
        have hsh2 := fun W (_ : Below wc.heap.size wc W) => HSH.out W
        have HCK2 := Lib.hid hck2; have HSH2 := Lib.hid hsh2
        clear hck2 hsh2
        go_upto_region 13 with (fail)
        go_cut [114] (fun s114 W => s114 = .bool false ∧ Below wc.heap.size wc W)
        case first =>
          have g0 := cell_regrown y0
          have g1 := cell_regrown y1
          have g2 := cell_regrown p0
          have g3 := cell_regrown p1
          have g4 := cell_regrown p2
          clear y0 y1 p0 p1 p2
          cases C1
          all_goals
            refine wp_region_quiet_below (by kernel_rfl) (by kernel_rfl) ?_
            repeat (go_big_quiet_step (first | exact Calls.regrown_of (HSH2.out _ (below_regrown _ _ _)) | exact Calls.regrown_of (HCK2.out _ (below_regrown _ _ _))))
            refine wpQuiet_nil ?_
            intro _ hw'
            obtain ⟨⟨dq, osq⟩, hw''⟩ := hw'
            subst hw''
            go_wp2_with fail
            go_meet
            case rel => exact ⟨rfl, below_regrown _ _ _⟩
        case rest =>
          obtain ⟨rfl, hbw⟩ := hcut
          have b := hbw
          clear hbw y0 y1 i2 p0 p1 p2 i7 S Hh X LL HCK2 HSH2 HCK HSH
          replace Y := Lib.hid (Y.out.step b); replace E := Lib.hid (E.out.deep b); replace P7 := Lib.hid (P7.out.step b); replace CH := Lib.hid (CH.out.deep b); replace BW := Lib.hid (below_step BW.out b)
          clear b
          ((try clear y0); (try clear y1); (try clear i2); have y0 := Y.out.two.1; have y1 := Y.out.two.2.1; have i2 := Y.out.inside)
          ((try clear p0); (try clear p1); (try clear p2); (try clear i7); have p0 := P7.out.at (i := 0) rfl; have p1 := P7.out.at (i := 1) rfl; have p2 := P7.out.at (i := 2) rfl; have i7 := P7.out.inside)
          go_wp2_with (go_at_call 31; (with_reducible refine (HYC.out _ _ _ _ _ E.out CH.out).mono ?_); rintro e w15 ⟨rfl, b⟩; ((try replace X := Lib.hid (X.out.step (below_step (by (repeat (first | exact Below.refl _ _ | refine keep_alloc ?_ _ | refine Below.drew ?_))) b))); (try replace Y := Lib.hid (Y.out.step (below_step (by (repeat (first | exact Below.refl _ _ | refine keep_alloc ?_ _ | refine Below.drew ?_))) b))); (try replace E := Lib.hid (E.out.deep (below_step (by (repeat (first | exact Below.refl _ _ | refine keep_alloc ?_ _ | refine Below.drew ?_))) b))); (try replace Hh := Lib.hid (Hh.out.deep (below_step (by (repeat (first | exact Below.refl _ _ | refine keep_alloc ?_ _ | refine Below.drew ?_))) b))); (try replace P7 := Lib.hid (P7.out.step (below_step (by (repeat (first | exact Below.refl _ _ | refine keep_alloc ?_ _ | refine Below.drew ?_))) b))); (try replace S := Lib.hid (S.out.deep (below_step (by (repeat (first | exact Below.refl _ _ | refine keep_alloc ?_ _ | refine Below.drew ?_))) b))); (try replace T := Lib.hid (T.out.deep (below_step (by (repeat (first | exact Below.refl _ _ | refine keep_alloc ?_ _ | refine Below.drew ?_))) b))); (try replace LL := Lib.hid (LL.out.deep (below_step (by (repeat (first | exact Below.refl _ _ | refine keep_alloc ?_ _ | refine Below.drew ?_))) b))); (try replace CH := Lib.hid (CH.out.deep (below_step (by (repeat (first | exact Below.refl _ _ | refine keep_alloc ?_ _ | refine Below.drew ?_))) b))); (try replace E3 := Lib.hid (E3.out.deep (below_step (by (repeat (first | exact Below.refl _ _ | refine keep_alloc ?_ _ | refine Below.drew ?_))) b))); (try replace BW := Lib.hid (below_step BW.out (below_step (by (repeat (first | exact Below.refl _ _ | refine keep_alloc ?_ _ | refine Below.drew ?_))) b))); clear b))
          go_ret
          exact ⟨rfl, BW.out⟩
end Go.Proofs.Ytkeimfkaoianmaa
