/- BetweenMore: its walk. -/
import Derived.Test.YtkeimfkaoianmaaSol
import Derived.Test.YtkeimfkaoianmaaWi
import Derived.Test.YtkeimfkaoianmaaMm
namespace Go.Proofs.Ytkeimfkaoianmaa
open Go.RowKit

theorem tblL_len (n : Nat) (f : Int → Int → Int) : (tblL n f).length = n := by simp [tblL]
theorem tblL_row {n : Nat} {f : Int → Int → Int} {r : List Int} (h : r ∈ tblL n f) : r.length = n := by
  unfold tblL at h
  obtain ⟨i, _, rfl⟩ := List.mem_map.1 h
  simp
theorem e_tabn (n s1 s2 : Nat) (f g : Int → Int → Int) (hn : n ≤ 1000) (W : World) (h1 : Tbl W s1 n f) (h2 : Tbl W s2 n g) :
    Calls Try.prog 24 #[.slice (some ⟨s1, 0, none⟩) n n, .slice (some ⟨s2, 0, none⟩) n n] W fun e w' => e = .returned (.bool (decide (tblL n f = tblL n g))) ∧ Below W.heap.size W w' := by
  have := e_tables (some ⟨s1, 0, none⟩) n W (some ⟨s2, 0, none⟩) n (tblL n f) (tblL n g) (by rw [tblL_len]; exact hn) (by rw [tblL_len]; exact hn) (fun r hr => by rw [tblL_row hr]; omega) (fun r hr => by rw [tblL_row hr]; omega) (tbl_rws h1) (tbl_rws h2)
  rw [tblL_len, tblL_len] at this
  exact this

set_option maxRecDepth 100000 in
set_option maxHeartbeats 8000000 in
theorem more_walk (N : Int) (H : List Int) (HA : Option Addr) (hc : Nat) (BL : List Bn) (BA : Option Addr) (bc : Nat) (M y0_ y1_ y2_ : Int) (hN : In64 N) (hH : ∀ x ∈ H, In64 x) (hHl : H.length ≤ 9223372036854775807)
    (hB : ∀ r ∈ BL, In64 r.1 ∧ In64 r.2.1 ∧ In64 r.2.2) (hBl : BL.length ≤ 9223372036854775807) (h0 : In64 y0_) (h1 : In64 y1_) (h2 : In64 y2_) (w : World) (hr : Nums w w.heap.size HA H) (hb : Rds w w.heap.size BA BL) :
    Calls Try.prog 8 #[nmV N HA H.length hc BA BL.length bc M, .agg #[.int .i64 y0_, .int .i64 y1_, .int .i64 y2_]] w fun e w' => e = .returned (.bool true) ∧ Below w.heap.size w w' := by
  have z64 : In64 (0 : Int) := by decide
  have hsan := sane_any
  have hmad := fun W (b : Below w.heap.size w W) => made_any N H HA hc BL BA bc 0 hN hH hHl hB hBl z64 W (hr.deep b) (hb.deep b)
  have hhid := fun W (b : Below w.heap.size w W) => hidden_any N H HA hc BA BL.length bc 0 hN hH hHl W (hr.deep b)
  have hbs := made_okb N H BL 0
  have hfi := made_fineB (N := N) (H := H) (BL := BL) miss0
  have hkeep := madeL_keeps (N := N) (H := H) (BL := BL) miss0
  have hbd := hidL_all N H
  have hlen := hidL_len N H
  obtain ⟨n1, n8⟩ := hidN_bd N
  have hK := madeL_len N H BL 0
  generalize hidN N = n at *
  generalize hidL N H = hh at *
  generalize madeL N H BL 0 = bs at *
  have q1 := fun W => pick_any y0_ n h0.1 h0.2 (by omega) (by omega) W
  have q2 := fun W => pick_any y1_ n h1.1 h1.2 (by omega) (by omega) W
  have q3 := fun W => pick_any y2_ 60 h2.1 h2.2 (by omega) (by omega) W
  have r1 := pk_range (c := y0_) (n := (n : Int)) (by omega)
  have r2 := pk_range (c := y1_) (n := (n : Int)) (by omega)
  have r3 := pk_range (c := y2_) (n := 60) (by omega)
  generalize pk y0_ n = f at *
  generalize pk y1_ n = t at *
  generalize pk y2_ 60 = z at *
  obtain ⟨f, rfl⟩ := Int.eq_ofNat_of_zero_le r1.1
  obtain ⟨t, rfl⟩ := Int.eq_ofNat_of_zero_le r2.1
  have f2 : f < n := by omega
  have t2 : t < n := by omega
  obtain ⟨hf, hhf⟩ : ∃ y, hh[f]? = some y := at_lt (by rw [hlen]; exact f2)
  obtain ⟨ht, hht⟩ : ∃ y, hh[t]? = some y := at_lt (by rw [hlen]; exact t2)
  have gf := hbd _ (List.mem_of_getElem? hhf)
  have gt := hbd _ (List.mem_of_getElem? hht)
  have ef : hh.getD ((f : Int)).toNat 0 = hf := by rw [List.getD_eq_getElem?_getD, Int.toNat_natCast, hhf]; rfl
  have et : hh.getD ((t : Int)).toNat 0 = ht := by rw [List.getD_eq_getElem?_getD, Int.toNat_natCast, hht]; rfl
  obtain ⟨m, hm⟩ : ∃ m, m = ht - hf + z := ⟨_, rfl⟩
  obtain ⟨b2, hb2⟩ : ∃ b2, b2 = bs ++ [((f : Int), (t : Int), m)] := ⟨_, rfl⟩
  have hmem : ∀ c ∈ b2, c ∈ bs ∨ c = ((f : Int), (t : Int), m) := fun c hc => by rw [hb2] at hc; simpa using hc
  have ho2 : Okb ((n : Nat) : Int) b2 := fun c hc => by
    rcases hmem c hc with q | rfl
    · exact hbs c q
    · exact ⟨by dsimp only; omega, by dsimp only; omega, by dsimp only; omega⟩
  have hf2 : Fine b2 := Fine.of_pot (x := hx hh) fun c hc => by
    rcases hmem c hc with q | rfl
    · exact hkeep c q
    · show hh.getD ((t : Int)).toNat 0 - hh.getD ((f : Int)).toNat 0 ≤ m
      rw [ef, et]; omega
  have hfi2 : fineB (n : Int) b2 = true := by
    rw [fineB_nat, (badB_false (by omega) ho2).2 hf2, validB_iff.2 ⟨by omega, by rw [hb2]; simp; omega, ho2⟩]
    rfl
  have hsame := more_same (bs := bs) (n := n) (f := (f : Int)) (t := (t : Int)) (m := m) (by rw [← hb2]; exact ho2) (by omega) (by rw [← hb2]; exact hf2) ⟨by omega, by omega⟩ ⟨by omega, by omega⟩
  have hle := fun i j => more_le (bs := bs) (n := n) (f := (f : Int)) (t := (t : Int)) (m := m) (by rw [← hb2]; exact ho2) (by omega) (by rw [← hb2]; exact hf2) i j
  have hbx : bndB (n : Int) ((f : Int), (t : Int), m) = true := by
    have := (validB_iff (N := (n : Int)) (bs := [((f : Int), (t : Int), m)])).2 ⟨by omega, by simp, fun c hc => ho2 c (by rw [hb2]; simp at hc; simp [hc])⟩
    unfold validB at this
    simp only [Bool.and_eq_true, List.all_cons, List.all_nil] at this
    exact this.2.1
  have hcl := fun A c W (r : Rds W W.heap.size A bs) => close_yes n bs A c hfi (by omega) W r
  have hc2 := fun A c W (r : Rds W W.heap.size A b2) => close_yes n b2 A c hfi2 (by rw [hb2]; simp; omega) W r
  have him := fun A c W (r : Rds W W.heap.size A bs) => implied_is n bs A c f t m hfi hbx (by omega) W r
  have hwi := fun A c W (r : Rds W W.heap.size A bs) => with_any n bs A c f t m (by omega) W r
  have htab := fun s1 s2 W (q1 : Tbl W s1 n (tb b2 n)) (q2 : Tbl W s2 n (tb bs n)) => e_tabn n s1 s2 (tb b2 n) (tb bs n) (by omega) W q1 q2
  have hl2 : b2.length = bs.length + 1 := by rw [hb2]; simp
  rw [← hb2] at hsame hwi hle
  rw [← hsame] at htab
  rw [hl2] at hc2
  obtain ⟨p, hp⟩ : ∃ p, p = decide (tb bs n (f : Int) (t : Int) ≤ m) := ⟨_, rfl⟩
  rw [← hp] at htab him
  obtain ⟨K, hK'⟩ : ∃ K, K = bs.length := ⟨_, rfl⟩
  rw [← hK'] at hmad hcl hc2 him hwi hK
  have HSAN := Lib.hid hsan; have HMAD := Lib.hid hmad; have HHID := Lib.hid hhid; have HCL := Lib.hid hcl; have HC2 := Lib.hid hc2; have HIM := Lib.hid him; have HWI := Lib.hid hwi; have HTAB := Lib.hid htab; have HLE := Lib.hid hle
  have Q1 := Lib.hid q1; have Q2 := Lib.hid q2; have Q3 := Lib.hid q3; have HHF := Lib.hid hhf; have HHT := Lib.hid hht; have HM := Lib.hid hm
  clear hm hsan hmad hhid hcl hc2 him hwi htab hle q1 q2 q3 hhf hht hbs hfi hkeep hbd hlen ef et hb2 hmem ho2 hf2 hfi2 hsame hbx hl2 hp hB hBl hN hH hHl hr hb z64 hK' h0 h1 h2
  generalize BL.length = L at *
  generalize H.length = HL at *
  unfold nmV btw bnd tblV at *
  dsimp only at HIM HWI
  have nb : ((n : Int) != (n : Int)) = false := by simp
  have X : Hid (Row ((w.alloc (.cells #[.int .i64 N, .slice HA HL hc, .slice BA L bc, .int .i64 M] 25)).alloc (.cells #[.int .i64 y0_, .int .i64 y1_, .int .i64 y2_] 57)) w.heap.size 25 #[.int .i64 N, .slice HA HL hc, .slice BA L bc, .int .i64 M]) := Lib.hid ((Row.made _ _ _).later _)
  have V : Hid (Row ((w.alloc (.cells #[.int .i64 N, .slice HA HL hc, .slice BA L bc, .int .i64 M] 25)).alloc (.cells #[.int .i64 y0_, .int .i64 y1_, .int .i64 y2_] 57)) (w.heap.size + 1) 57 #[.int .i64 y0_, .int .i64 y1_, .int .i64 y2_]) := Lib.hid (Row.made_at _ _ _ (by simp))
  have BW : Hid (Below w.heap.size w ((w.alloc (.cells #[.int .i64 N, .slice HA HL hc, .slice BA L bc, .int .i64 M] 25)).alloc (.cells #[.int .i64 y0_, .int .i64 y1_, .int .i64 y2_] 57))) := Lib.hid (keep_alloc (below_alloc _ _) _)
  go_enter Try.func8, Try.ntmps8
  go_upto_region 4 with (go_at_call 10; (with_reducible refine (HSAN.out _).mono ?_); rintro e w1 ⟨rfl, b⟩; ((try replace X := Lib.hid (X.out.step (below_step (by (repeat (first | exact Below.refl _ _ | refine keep_alloc ?_ _ | refine Below.drew ?_))) b))); (try replace V := Lib.hid (V.out.step (below_step (by (repeat (first | exact Below.refl _ _ | refine keep_alloc ?_ _ | refine Below.drew ?_))) b))); (try replace Y := Lib.hid (Y.out.step (below_step (by (repeat (first | exact Below.refl _ _ | refine keep_alloc ?_ _ | refine Below.drew ?_))) b))); (try replace E := Lib.hid (E.out.deep (below_step (by (repeat (first | exact Below.refl _ _ | refine keep_alloc ?_ _ | refine Below.drew ?_))) b))); (try replace Hh := Lib.hid (Hh.out.deep (below_step (by (repeat (first | exact Below.refl _ _ | refine keep_alloc ?_ _ | refine Below.drew ?_))) b))); (try replace P7 := Lib.hid (P7.out.step (below_step (by (repeat (first | exact Below.refl _ _ | refine keep_alloc ?_ _ | refine Below.drew ?_))) b))); (try replace D1 := Lib.hid (D1.out.step (below_step (by (repeat (first | exact Below.refl _ _ | refine keep_alloc ?_ _ | refine Below.drew ?_))) b))); (try replace D2 := Lib.hid (D2.out.step (below_step (by (repeat (first | exact Below.refl _ _ | refine keep_alloc ?_ _ | refine Below.drew ?_))) b))); (try replace E3 := Lib.hid (E3.out.deep (below_step (by (repeat (first | exact Below.refl _ _ | refine keep_alloc ?_ _ | refine Below.drew ?_))) b))); (try replace BW := Lib.hid (below_step BW.out (below_step (by (repeat (first | exact Below.refl _ _ | refine keep_alloc ?_ _ | refine Below.drew ?_))) b))); clear b); have fz := X.out.free 3; have x3 := X.out.at (i := 3) rfl)
  replace X := Lib.hid (X.out.stored 3 (.int .i64 0))
  replace V := Lib.hid (V.out.aside (p := ⟨w.heap.size, 3, none⟩) (show w.heap.size ≠ w.heap.size + 1 by omega) (.int .i64 0))
  replace BW := Lib.hid (BW.out.setCell (p := ⟨w.heap.size, 3, none⟩) (Nat.le_refl _) (.int .i64 0))
  clear fz
  obtain ⟨w2, hw2⟩ : ∃ w2, w2 = w1.setCell ⟨w.heap.size, 3, none⟩ (.int .i64 0) := ⟨_, rfl⟩
  rw [← hw2] at X V BW ⊢
  clear hw2
  ((try clear x0); (try clear x1); (try clear x2); (try clear x3); (try clear i1); have x0 := X.out.at (i := 0) rfl; have x1 := X.out.at (i := 1) rfl; have x2 := X.out.at (i := 2) rfl; have x3 := X.out.at (i := 3) rfl; have i1 := X.out.inside)
  go_upto_region 6 with (first
    | (go_at_call 12; (with_reducible refine (HMAD.out _ BW.out).mono ?_); rintro e w3 ⟨A, cap, rfl, r, b⟩; ((try replace X := Lib.hid (X.out.step (below_step (by (repeat (first | exact Below.refl _ _ | refine keep_alloc ?_ _ | refine Below.drew ?_))) b))); (try replace V := Lib.hid (V.out.step (below_step (by (repeat (first | exact Below.refl _ _ | refine keep_alloc ?_ _ | refine Below.drew ?_))) b))); (try replace Y := Lib.hid (Y.out.step (below_step (by (repeat (first | exact Below.refl _ _ | refine keep_alloc ?_ _ | refine Below.drew ?_))) b))); (try replace E := Lib.hid (E.out.deep (below_step (by (repeat (first | exact Below.refl _ _ | refine keep_alloc ?_ _ | refine Below.drew ?_))) b))); (try replace Hh := Lib.hid (Hh.out.deep (below_step (by (repeat (first | exact Below.refl _ _ | refine keep_alloc ?_ _ | refine Below.drew ?_))) b))); (try replace P7 := Lib.hid (P7.out.step (below_step (by (repeat (first | exact Below.refl _ _ | refine keep_alloc ?_ _ | refine Below.drew ?_))) b))); (try replace D1 := Lib.hid (D1.out.step (below_step (by (repeat (first | exact Below.refl _ _ | refine keep_alloc ?_ _ | refine Below.drew ?_))) b))); (try replace D2 := Lib.hid (D2.out.step (below_step (by (repeat (first | exact Below.refl _ _ | refine keep_alloc ?_ _ | refine Below.drew ?_))) b))); (try replace E3 := Lib.hid (E3.out.deep (below_step (by (repeat (first | exact Below.refl _ _ | refine keep_alloc ?_ _ | refine Below.drew ?_))) b))); (try replace BW := Lib.hid (below_step BW.out (below_step (by (repeat (first | exact Below.refl _ _ | refine keep_alloc ?_ _ | refine Below.drew ?_))) b))); clear b); have E := Lib.hid r; clear r; ((try clear x0); (try clear x1); (try clear x2); (try clear x3); (try clear i1); have x0 := X.out.at (i := 0) rfl; have x1 := X.out.at (i := 1) rfl; have x2 := X.out.at (i := 2) rfl; have x3 := X.out.at (i := 3) rfl; have i1 := X.out.inside); have Y := Lib.hid (Row.made w3 28 #[.int .i64 (n : Int), .slice A K cap]))
    | (go_at_call 26; (with_reducible refine (HHID.out _ (keep_alloc BW.out _)).mono ?_); rintro e w4 ⟨gh, hcap, rfl, r, b⟩; have yy := Y.out.step b; clear Y; ((try replace X := Lib.hid (X.out.step (below_step (by (repeat (first | exact Below.refl _ _ | refine keep_alloc ?_ _ | refine Below.drew ?_))) b))); (try replace V := Lib.hid (V.out.step (below_step (by (repeat (first | exact Below.refl _ _ | refine keep_alloc ?_ _ | refine Below.drew ?_))) b))); (try replace Y := Lib.hid (Y.out.step (below_step (by (repeat (first | exact Below.refl _ _ | refine keep_alloc ?_ _ | refine Below.drew ?_))) b))); (try replace E := Lib.hid (E.out.deep (below_step (by (repeat (first | exact Below.refl _ _ | refine keep_alloc ?_ _ | refine Below.drew ?_))) b))); (try replace Hh := Lib.hid (Hh.out.deep (below_step (by (repeat (first | exact Below.refl _ _ | refine keep_alloc ?_ _ | refine Below.drew ?_))) b))); (try replace P7 := Lib.hid (P7.out.step (below_step (by (repeat (first | exact Below.refl _ _ | refine keep_alloc ?_ _ | refine Below.drew ?_))) b))); (try replace D1 := Lib.hid (D1.out.step (below_step (by (repeat (first | exact Below.refl _ _ | refine keep_alloc ?_ _ | refine Below.drew ?_))) b))); (try replace D2 := Lib.hid (D2.out.step (below_step (by (repeat (first | exact Below.refl _ _ | refine keep_alloc ?_ _ | refine Below.drew ?_))) b))); (try replace E3 := Lib.hid (E3.out.deep (below_step (by (repeat (first | exact Below.refl _ _ | refine keep_alloc ?_ _ | refine Below.drew ?_))) b))); (try replace BW := Lib.hid (below_step BW.out (below_step (by (repeat (first | exact Below.refl _ _ | refine keep_alloc ?_ _ | refine Below.drew ?_))) b))); clear b); have Y := Lib.hid yy; have Hh := Lib.hid (own_intNums r); clear r yy; ((try clear y0); (try clear y1); (try clear i2); have y0 := Y.out.two.1; have y1 := Y.out.two.2.1; have i2 := Y.out.inside)))
  clear x0 x1 x2 x3 y0 y1 i1 i2
  have kk : ∀ W, Below w4.heap.size w4 W → (Below w4.heap.size w4 W ∧ W.cell? ⟨w.heap.size + 1, 0, none⟩ = some (.int .i64 y0_) ∧ W.cell? ⟨w.heap.size + 1, 1, none⟩ = some (.int .i64 y1_) ∧ W.cell? ⟨w3.heap.size, 0, none⟩ = some (.int .i64 (n : Int))) := fun W b => ⟨b, (V.out.step b).at (i := 0) rfl, (V.out.step b).at (i := 1) rfl, (Y.out.step b).two.1⟩
  have KK := Lib.hid kk
  clear kk
  go_cut [7] (fun s7 W => s7 = .pointer (some ⟨w4.heap.size, 0, none⟩) ∧ Row W w4.heap.size 30 #[.int .i64 (f : Int), .int .i64 (t : Int), .int .i64 0] ∧ Below w4.heap.size w4 W)
  case first =>
    go_region_held3 (fun W => Below w4.heap.size w4 W ∧ W.cell? ⟨w.heap.size + 1, 0, none⟩ = some (.int .i64 y0_) ∧ W.cell? ⟨w.heap.size + 1, 1, none⟩ = some (.int .i64 y1_) ∧ W.cell? ⟨w3.heap.size, 0, none⟩ = some (.int .i64 (n : Int)))
      (first | assumption | exact KK.out _ (Below.refl _ _) | exact KK.out _ ((Below.refl _ _).drew) | exact KK.out _ (below_alloc _ _) | exact KK.out _ (keep_alloc ((Below.refl _ _).drew) _) | exact KK.out _ ((below_alloc _ _).drew) | exact KK.out _ (keep_alloc (And.left (by assumption)) _) | exact KK.out _ ((And.left (by assumption)).drew) | fail)
      (first | (go_at_call 13; (first | ((with_reducible refine (Q1.out _).mono ?_); rintro e wx ⟨rfl, hwx⟩; have hwx := hwx.symm; subst hwx) | ((with_reducible refine (Q2.out _).mono ?_); rintro e wx ⟨rfl, hwx⟩; have hwx := hwx.symm; subst hwx))) | fail)
    all_goals go_wp2_with fail
    all_goals go_meet
    all_goals (case rel => exact ⟨rfl, by first | exact (Row.made _ _ _).drawn | exact Row.made _ _ _, by first | exact (below_alloc _ _).drew | exact keep_alloc ((Below.refl _ _).drew) _⟩)
  case rest =>
    obtain ⟨rfl, rP, hbw⟩ := hcut
    have RP := Lib.hid rP; have HBW := Lib.hid hbw
    obtain ⟨s0, s1, s2, s3, s4, s5⟩ := rP.three
    have c1 := nums_cell (Hh.out.deep hbw) HHF.out
    have c2 := nums_cell (Hh.out.deep hbw) HHT.out
    have v2 := (V.out.step hbw).at (i := 2) rfl
    have w1' : IntKind.i64.wrap (ht - hf) = ht - hf := IntWalk.i64_in _ (by omega)
    have w2' : IntKind.i64.wrap (ht - hf + z) = ht - hf + z := IntWalk.i64_in _ (by omega)
    have fn : (f : Int) < (n : Int) := by omega
    have tn : (t : Int) < (n : Int) := by omega
    clear rP hbw
    go_upto_region 7 with (fail)
    refine wp_region_still_tail 16 (by kernel_rfl) (by kernel_rfl) ?_
    simp only [List.take_succ_cons, List.take_zero, List.drop_succ_cons, List.drop_zero]
    repeat (first | still_step | still_call (Q3.out _))
    try refine wpStill_nil ?_
    change wpList _ _ _ _ _ wc.drew
    clear c1 c2 s0 s1 v2 w1' w2'
    go_upto_region 8 with (fail)
    obtain ⟨W7, hW7⟩ : ∃ W7, W7 = (wc.setCell ⟨w4.heap.size, 2, none⟩ (.int .i64 (ht - hf + z))).drew := ⟨_, rfl⟩
    rw [← hW7]
    have b : Below w4.heap.size w4 W7 := by rw [hW7]; exact (HBW.out.setCell (p := ⟨w4.heap.size, 2, none⟩) (Nat.le_refl _) _).drew
    have P7 : Hid (Row W7 w4.heap.size 30 #[.int .i64 (f : Int), .int .i64 (t : Int), .int .i64 m]) := Lib.hid (by rw [hW7, HM.out]; exact (RP.out.stored 2 _).drawn)
    clear hW7 s2 s3 s4 s5 RP
    replace X := Lib.hid (X.out.step b); replace V := Lib.hid (V.out.step b); replace Y := Lib.hid (Y.out.step b); replace E := Lib.hid (E.out.deep b); replace Hh := Lib.hid (Hh.out.deep b); replace BW := Lib.hid (below_step BW.out b)
    clear b
    ((try clear y0); (try clear y1); (try clear i2); have y0 := Y.out.two.1; have y1 := Y.out.two.2.1; have i2 := Y.out.inside)
    ((try clear p0); (try clear p1); (try clear p2); (try clear i7); have p0 := P7.out.at (i := 0) rfl; have p1 := P7.out.at (i := 1) rfl; have p2 := P7.out.at (i := 2) rfl; have i7 := P7.out.inside)
    go_wp2_with (first
      | (go_at_call 33; (with_reducible refine (HIM.out _ _ _ E.out).mono ?_); rintro e w8 ⟨iv, rfl, b⟩; ((try replace X := Lib.hid (X.out.step (below_step (by (repeat (first | exact Below.refl _ _ | refine keep_alloc ?_ _ | refine Below.drew ?_))) b))); (try replace V := Lib.hid (V.out.step (below_step (by (repeat (first | exact Below.refl _ _ | refine keep_alloc ?_ _ | refine Below.drew ?_))) b))); (try replace Y := Lib.hid (Y.out.step (below_step (by (repeat (first | exact Below.refl _ _ | refine keep_alloc ?_ _ | refine Below.drew ?_))) b))); (try replace E := Lib.hid (E.out.deep (below_step (by (repeat (first | exact Below.refl _ _ | refine keep_alloc ?_ _ | refine Below.drew ?_))) b))); (try replace Hh := Lib.hid (Hh.out.deep (below_step (by (repeat (first | exact Below.refl _ _ | refine keep_alloc ?_ _ | refine Below.drew ?_))) b))); (try replace P7 := Lib.hid (P7.out.step (below_step (by (repeat (first | exact Below.refl _ _ | refine keep_alloc ?_ _ | refine Below.drew ?_))) b))); (try replace D1 := Lib.hid (D1.out.step (below_step (by (repeat (first | exact Below.refl _ _ | refine keep_alloc ?_ _ | refine Below.drew ?_))) b))); (try replace D2 := Lib.hid (D2.out.step (below_step (by (repeat (first | exact Below.refl _ _ | refine keep_alloc ?_ _ | refine Below.drew ?_))) b))); (try replace E3 := Lib.hid (E3.out.deep (below_step (by (repeat (first | exact Below.refl _ _ | refine keep_alloc ?_ _ | refine Below.drew ?_))) b))); (try replace BW := Lib.hid (below_step BW.out (below_step (by (repeat (first | exact Below.refl _ _ | refine keep_alloc ?_ _ | refine Below.drew ?_))) b))); clear b); ((try clear y0); (try clear y1); (try clear i2); have y0 := Y.out.two.1; have y1 := Y.out.two.2.1; have i2 := Y.out.inside); ((try clear p0); (try clear p1); (try clear p2); (try clear i7); have p0 := P7.out.at (i := 0) rfl; have p1 := P7.out.at (i := 1) rfl; have p2 := P7.out.at (i := 2) rfl; have i7 := P7.out.inside))
      | (go_at_call 16; (with_reducible refine (HCL.out _ _ _ E.out).mono ?_); rintro e w9 ⟨d1, rfl, r, b⟩; ((try replace X := Lib.hid (X.out.step (below_step (by (repeat (first | exact Below.refl _ _ | refine keep_alloc ?_ _ | refine Below.drew ?_))) b))); (try replace V := Lib.hid (V.out.step (below_step (by (repeat (first | exact Below.refl _ _ | refine keep_alloc ?_ _ | refine Below.drew ?_))) b))); (try replace Y := Lib.hid (Y.out.step (below_step (by (repeat (first | exact Below.refl _ _ | refine keep_alloc ?_ _ | refine Below.drew ?_))) b))); (try replace E := Lib.hid (E.out.deep (below_step (by (repeat (first | exact Below.refl _ _ | refine keep_alloc ?_ _ | refine Below.drew ?_))) b))); (try replace Hh := Lib.hid (Hh.out.deep (below_step (by (repeat (first | exact Below.refl _ _ | refine keep_alloc ?_ _ | refine Below.drew ?_))) b))); (try replace P7 := Lib.hid (P7.out.step (below_step (by (repeat (first | exact Below.refl _ _ | refine keep_alloc ?_ _ | refine Below.drew ?_))) b))); (try replace D1 := Lib.hid (D1.out.step (below_step (by (repeat (first | exact Below.refl _ _ | refine keep_alloc ?_ _ | refine Below.drew ?_))) b))); (try replace D2 := Lib.hid (D2.out.step (below_step (by (repeat (first | exact Below.refl _ _ | refine keep_alloc ?_ _ | refine Below.drew ?_))) b))); (try replace E3 := Lib.hid (E3.out.deep (below_step (by (repeat (first | exact Below.refl _ _ | refine keep_alloc ?_ _ | refine Below.drew ?_))) b))); (try replace BW := Lib.hid (below_step BW.out (below_step (by (repeat (first | exact Below.refl _ _ | refine keep_alloc ?_ _ | refine Below.drew ?_))) b))); clear b); have D1 := Lib.hid r; clear r; ((try clear y0); (try clear y1); (try clear i2); have y0 := Y.out.two.1; have y1 := Y.out.two.2.1; have i2 := Y.out.inside); ((try clear p0); (try clear p1); (try clear p2); (try clear i7); have p0 := P7.out.at (i := 0) rfl; have p1 := P7.out.at (i := 1) rfl; have p2 := P7.out.at (i := 2) rfl; have i7 := P7.out.inside))
      | (go_at_call 36; (with_reducible refine (HWI.out _ _ _ E.out).mono ?_); rintro e w10 ⟨A3, cap3, rfl, r, b⟩; ((try replace X := Lib.hid (X.out.step (below_step (by (repeat (first | exact Below.refl _ _ | refine keep_alloc ?_ _ | refine Below.drew ?_))) b))); (try replace V := Lib.hid (V.out.step (below_step (by (repeat (first | exact Below.refl _ _ | refine keep_alloc ?_ _ | refine Below.drew ?_))) b))); (try replace Y := Lib.hid (Y.out.step (below_step (by (repeat (first | exact Below.refl _ _ | refine keep_alloc ?_ _ | refine Below.drew ?_))) b))); (try replace E := Lib.hid (E.out.deep (below_step (by (repeat (first | exact Below.refl _ _ | refine keep_alloc ?_ _ | refine Below.drew ?_))) b))); (try replace Hh := Lib.hid (Hh.out.deep (below_step (by (repeat (first | exact Below.refl _ _ | refine keep_alloc ?_ _ | refine Below.drew ?_))) b))); (try replace P7 := Lib.hid (P7.out.step (below_step (by (repeat (first | exact Below.refl _ _ | refine keep_alloc ?_ _ | refine Below.drew ?_))) b))); (try replace D1 := Lib.hid (D1.out.step (below_step (by (repeat (first | exact Below.refl _ _ | refine keep_alloc ?_ _ | refine Below.drew ?_))) b))); (try replace D2 := Lib.hid (D2.out.step (below_step (by (repeat (first | exact Below.refl _ _ | refine keep_alloc ?_ _ | refine Below.drew ?_))) b))); (try replace E3 := Lib.hid (E3.out.deep (below_step (by (repeat (first | exact Below.refl _ _ | refine keep_alloc ?_ _ | refine Below.drew ?_))) b))); (try replace BW := Lib.hid (below_step BW.out (below_step (by (repeat (first | exact Below.refl _ _ | refine keep_alloc ?_ _ | refine Below.drew ?_))) b))); clear b); have E3 := Lib.hid r; clear r; ((try clear y0); (try clear y1); (try clear i2); have y0 := Y.out.two.1; have y1 := Y.out.two.2.1; have i2 := Y.out.inside); ((try clear p0); (try clear p1); (try clear p2); (try clear i7); have p0 := P7.out.at (i := 0) rfl; have p1 := P7.out.at (i := 1) rfl; have p2 := P7.out.at (i := 2) rfl; have i7 := P7.out.inside))
      | (go_at_call 16; (with_reducible refine (HC2.out _ _ _ E3.out).mono ?_); rintro e w11 ⟨d2, rfl, r, b⟩; ((try replace X := Lib.hid (X.out.step (below_step (by (repeat (first | exact Below.refl _ _ | refine keep_alloc ?_ _ | refine Below.drew ?_))) b))); (try replace V := Lib.hid (V.out.step (below_step (by (repeat (first | exact Below.refl _ _ | refine keep_alloc ?_ _ | refine Below.drew ?_))) b))); (try replace Y := Lib.hid (Y.out.step (below_step (by (repeat (first | exact Below.refl _ _ | refine keep_alloc ?_ _ | refine Below.drew ?_))) b))); (try replace E := Lib.hid (E.out.deep (below_step (by (repeat (first | exact Below.refl _ _ | refine keep_alloc ?_ _ | refine Below.drew ?_))) b))); (try replace Hh := Lib.hid (Hh.out.deep (below_step (by (repeat (first | exact Below.refl _ _ | refine keep_alloc ?_ _ | refine Below.drew ?_))) b))); (try replace P7 := Lib.hid (P7.out.step (below_step (by (repeat (first | exact Below.refl _ _ | refine keep_alloc ?_ _ | refine Below.drew ?_))) b))); (try replace D1 := Lib.hid (D1.out.step (below_step (by (repeat (first | exact Below.refl _ _ | refine keep_alloc ?_ _ | refine Below.drew ?_))) b))); (try replace D2 := Lib.hid (D2.out.step (below_step (by (repeat (first | exact Below.refl _ _ | refine keep_alloc ?_ _ | refine Below.drew ?_))) b))); (try replace E3 := Lib.hid (E3.out.deep (below_step (by (repeat (first | exact Below.refl _ _ | refine keep_alloc ?_ _ | refine Below.drew ?_))) b))); (try replace BW := Lib.hid (below_step BW.out (below_step (by (repeat (first | exact Below.refl _ _ | refine keep_alloc ?_ _ | refine Below.drew ?_))) b))); clear b); have D2 := Lib.hid r; clear r E3; ((try clear y0); (try clear y1); (try clear i2); have y0 := Y.out.two.1; have y1 := Y.out.two.2.1; have i2 := Y.out.inside); ((try clear p0); (try clear p1); (try clear p2); (try clear i7); have p0 := P7.out.at (i := 0) rfl; have p1 := P7.out.at (i := 1) rfl; have p2 := P7.out.at (i := 2) rfl; have i7 := P7.out.inside)))
    clear y0 y1 i2 p0 p1 p2 i7
    go_loopg [14] n (fun kx s14 wr => ∃ i : Nat, s14 = .int .i64 (i : Int) ∧ i + kx = n ∧ Below w11.heap.size w11 wr)
    case atStart => exact ⟨0, rfl, by omega, Below.refl _ _⟩
    case round =>
      obtain ⟨i, rfl, hi', hbi⟩ := hrel
      have c0 := (Y.out.step hbi).two.1
      have BI := Lib.hid hbi
      clear hbi
      by_cases hil : i < n
      · have ik : (i : Int) < (n : Int) := by omega
        go_wp2
        go_loopg [15] n (fun kx s15 wr => ∃ j : Nat, s15 = .int .i64 (j : Int) ∧ j + kx = n ∧ Below w11.heap.size w11 wr)
        case atStart => exact ⟨0, rfl, by omega, BI.out⟩
        case round =>
          clear c0
          obtain ⟨j, rfl, hj', hbj⟩ := hrel
          have c0 := (Y.out.step hbj).two.1
          by_cases hjl : j < n
          · have jk : (j : Int) < (n : Int) := by omega
            have g0 := (D1.out.step hbj).cell hil
            have g1 := (D1.out.step hbj).val hil hjl
            have g2 := (D2.out.step hbj).cell hil
            have g3 := (D2.out.step hbj).val hil hjl
            have m1 := HLE.out (i : Int) (j : Int)
            have BJ := Lib.hid hbj
            clear hbj
            generalize tb bs n (i : Int) (j : Int) = τ at *
            generalize tb b2 n (i : Int) (j : Int) = τ2 at *
            have hd : decide (τ2 > τ) = false := decide_eq_false (by omega)
            go_upto_region 19 with (fail)
            go_quiet (fail)
            go_wp2
            go_roundg (n - (j + 1))
            case measure => omega
            case rel => exact ⟨j + 1, by go_num, by omega, below_drawnN BJ.out _⟩
          · obtain rfl : j = n := by omega
            have BJ := Lib.hid hbj
            clear hbj
            go_wp2
            go_roundg (j - (i + 1))
            case measure => omega
            case rel => exact ⟨i + 1, by go_num, by omega, BJ.out⟩
      · obtain rfl : i = n := by omega
        have D1' := Lib.hid (D1.out.step BI.out); have D2' := Lib.hid (D2.out.step BI.out); have BW' := Lib.hid (below_step BW.out BI.out)
        cases p
        all_goals
          go_wp2_with (go_at_call 24; (with_reducible refine (HTAB.out _ _ _ D2'.out D1'.out).mono ?_); rintro e w12 ⟨rfl, b⟩; have B12 := Lib.hid b; clear b)
          go_ret
          exact ⟨rfl, below_step BW'.out B12.out⟩
end Go.Proofs.Ytkeimfkaoianmaa
