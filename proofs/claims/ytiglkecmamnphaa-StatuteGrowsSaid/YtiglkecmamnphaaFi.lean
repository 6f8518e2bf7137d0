/- find. -/
import Derived.Test.YtiglkecmamnphaaMp
namespace Go.Proofs.Ytiglkecmamnphaa
open Go.RowKit Go.Sort Go.Lib Go.Maps

def YesS (S : List Fd) (k : Int) (h : Bool) : Prop := isL S k h = true
def NoS (S : List Fd) (k : Int) (h : Bool) : Prop := isL S k (!h) = true
theorem ok_of_yes {S : List Fd} {x : Cls} (h1 : ∀ n ∈ x.needs, YesS S n true) (h2 : ∀ n ∈ x.bars, YesS S n false) : okB (isL S) x = true := by
  unfold okB
  rw [List.all_eq_true.2 h1, List.all_eq_true.2 h2]
  rfl
theorem ex_of_no {S : List Fd} {x : Cls} (h : (∃ n ∈ x.needs, NoS S n true) ∨ ∃ n ∈ x.bars, NoS S n false) : exB (isL S) x = true := by
  unfold exB
  rw [Bool.or_eq_true]
  rcases h with ⟨n, hn, k⟩ | ⟨n, hn, k⟩
  · exact .inl (List.any_eq_true.2 ⟨n, hn, k⟩)
  · exact .inr (List.any_eq_true.2 ⟨n, hn, k⟩)
/-- The cells of a clause of the rules. -/
theorem cls_cells {b : Bk} {W : World} {CA : Option Addr} {cc : Nat} {rv fv : Value} (h : BkV W W.heap.size (.slice CA b.cls.length cc) rv fv b) {k : Nat} (hk : k < b.cls.length) :
    ∃ (x : Cls) (bb o : Nat) (NA BA : Option Addr) (nc bc : Nat), clsOf b (k : Int) = x ∧ CA = some ⟨bb, o, none⟩ ∧ (x.needs.length ≤ Big ∧ Nums W W.heap.size NA x.needs) ∧ (x.bars.length ≤ Big ∧ Nums W W.heap.size BA x.bars) ∧
      W.cell? ⟨bb, o + k * 6, none⟩ = some (.int .i64 x.pub) ∧ W.cell? ⟨bb, o + k * 6 + 1, none⟩ = some (.int .i64 x.sf) ∧ W.cell? ⟨bb, o + k * 6 + 2, none⟩ = some (.int .i64 x.st) ∧ W.cell? ⟨bb, o + k * 6 + 3, none⟩ = some (.slice NA x.needs.length nc) ∧ W.cell? ⟨bb, o + k * 6 + 4, none⟩ = some (.slice BA x.bars.length bc) ∧ W.cell? ⟨bb, o + k * 6 + 5, none⟩ = some (.int .i64 x.gives) := by
  obtain ⟨x, hx⟩ := at_lt hk
  have hof : clsOf b (k : Int) = x := by unfold clsOf; rw [Int.toNat_natCast, hx]; rfl
  obtain ⟨bb, o, NA, BA, nc, bc, hA, _, hN, hB, c⟩ := h.1.get hx
  exact ⟨x, bb, o, NA, BA, nc, bc, hof, hA, hN, hB, c⟩
theorem len_sF (b : Bk) (q : Qn) (n : Int) : (sF b q n).length ≤ b.fct.length := Nat.le_trans (List.length_filter_le _ _) (len_aF b q)
theorem len_sC (b : Bk) (q : Qn) (n : Int) : (sC b q n).length ≤ b.cls.length := Nat.le_trans (List.length_filter_le _ _) (len_aC b q)

theorem MapIs.set {W : World} {gm z i : Nat} {S : List Fd} (h : MapIs W gm S) (hne : gm ≠ z) (v : Value) : MapIs (W.setCell ⟨z, i, none⟩ v) gm S := by
  obtain ⟨D, h1, h2, h3⟩ := h
  exact ⟨D, h1.kept (grown_set W z i v) (fun e => hne (by injection e)), h2, h3⟩
theorem grown_put {w W : World} {r : Option Nat} {z i : Nat} (h : w.grownBy W r) (hz : w.heap.size ≤ z) (v : Value) : w.grownBy (W.setCell ⟨z, i, none⟩ v) r := grown_trans h (grown_set W z i v) fun g e => .inr (by cases e; exact hz)
/-- Behind the store of a finding into the box of the result. -/
theorem at_res {b : Bk} {q : Qn} {cv rv fv av bv : Value} {gm g5 g2 g6 z : Nat} {S S' : List Fd} {w X : World} (ha : AtS b q cv rv fv av bv gm g5 g2 g6 S w) (hg : w.grownBy X (some gm)) (hm : MapIs X gm S') (hc : Cld b q S') (hz : w.heap.size ≤ z) (v0 v1 v2 v3 : Value) :
    AtS b q cv rv fv av bv gm g5 g2 g6 S' ((((X.setCell ⟨z, 0, none⟩ v0).setCell ⟨z, 1, none⟩ v1).setCell ⟨z, 2, none⟩ v2).setCell ⟨z, 3, none⟩ v3) ∧ w.grownBy ((((X.setCell ⟨z, 0, none⟩ v0).setCell ⟨z, 1, none⟩ v1).setCell ⟨z, 2, none⟩ v2).setCell ⟨z, 3, none⟩ v3) (some gm) := by
  have hne : gm ≠ z := by have := ha.mp.lt; omega
  have g := grown_put (grown_put (grown_put (grown_put hg hz v0 (i := 0)) hz v1 (i := 1)) hz v2 (i := 2)) hz v3 (i := 3)
  exact ⟨ha.grown g ((((hm.set hne v0).set hne v1).set hne v2).set hne v3) hc, g⟩

set_option maxRecDepth 100000 in
set_option maxHeartbeats 16000000 in
theorem find_any (b : Bk) (q : Qn) (hlow : LowB b) (hc20 : b.cls.length ≤ 20) (hf20 : b.fct.length ≤ 20) (cv rv fv av bv : Value) (gm g5 g2 g6 f : Nat) (cb : Array Value) (n : Int) (h0 : 0 ≤ n) (h1 : n < 20)
    (H : IsFn (List Fd) (AtS b q cv rv fv av bv gm g5 g2 g6) (Grw n) YesS NoS (some gm) (fun k => 0 ≤ k ∧ k < n) f cb) (S : List Fd) (w : World) (ha : AtS b q cv rv fv av bv gm g5 g2 g6 S w) :
    Calls Try.prog 46 #[.agg #[cv, rv, fv, av, bv], .int .i64 n, .func (.func f) #[] cb] w fun e w' => ∃ (g : Fd) (S' : List Fd), e = .returned (.agg (fdC g)) ∧ (g.1 = n ∧ g.2.1 = soB b q n ∧ rightB b q (isL S') g = true) ∧ Grw n S S' ∧ AtS b q cv rv fv av bv gm g5 g2 g6 S' w' ∧ w.grownBy w' (some gm) := by
  obtain ⟨CA0, cc0, rfl, hc9, _⟩ := ha.vw.1.1
  have hsa := fun (W : World) (h : VwV W W.heap.size (.slice CA0 b.cls.length cc0) rv fv av bv b q) => saying_any b q n (.slice CA0 b.cls.length cc0) rv fv av bv W h hf20
  have hgi := fun (W : World) (h : VwV W W.heap.size (.slice CA0 b.cls.length cc0) rv fv av bv b q) => giving_any b q n (.slice CA0 b.cls.length cc0) rv fv av bv W h hc20
  have hmem : ∀ i ∈ sC b q n, (0 ≤ i ∧ i.toNat < b.cls.length) ∧ i ∈ sC b q n := fun i hi => ⟨(mem_aC.1 (mem_sC.1 hi).1).1, hi⟩
  have hff := fun (i : Int) (is : Int → Bool → Bool) (hi : i ∈ sF b q n) => found_fact (is := is) hlow h0 h1 hi
  have hfc := fun (i : Int) (S' : List Fd) (hc : Cld b q S') (hi : i ∈ sC b q n) (ho : okB (isL S') (clsOf b i) = true) => found_clause (is := isL S') hlow h0 h1 hi ho fun m h e _ _ => hc.so m h e
  have hfn := fun (S' : List Fd) (hc : Cld b q S') (hF : sF b q n = []) (hC : ∀ i ∈ sC b q n, exB (isL S') (clsOf b i) = true) => found_not (is := isL S') hlow h0 h1 hF hC fun m h e _ _ => hc.so m h e
  have hful := fun (x : Cls) (i : Int) (hx : clsOf b i = x) (hi : i ∈ sC b q n) (NA BA : Option Addr) (nc bc : Nat) (n9 : x.needs.length ≤ Big) (b9 : x.bars.length ≤ Big) (S1 : List Fd) (W : World) (hat : AtS b q (.slice CA0 b.cls.length cc0) rv fv av bv gm g5 g2 g6 S1 W) (hN : Nums W W.heap.size NA x.needs) (hB : Nums W W.heap.size BA x.bars) =>
    fulfilled_any H x NA BA nc bc n9 b9 (by
      obtain ⟨_, l1, l2⟩ := sC_low hlow hi
      rw [hx] at l1 l2
      exact ⟨l1, l2⟩) S1 W hat hN hB
  have hlF := len_sF b q n
  have hlC := len_sC b q n
  obtain ⟨L, hL⟩ : ∃ L, L = b.cls.length := ⟨_, rfl⟩
  simp only [← hL] at hsa hgi hful hc9 hmem hc20 hlC ha H ⊢
  replace hc9 : L ≤ 9223372036854775807 := hc9
  have hcls := fun (k : Nat) (W : World) (h : BkV W W.heap.size (.slice CA0 b.cls.length cc0) rv fv b) (hk : k < b.cls.length) => cls_cells h hk
  rw [← hL] at hcls
  generalize hFF : sF b q n = F at *
  generalize sC b q n = C at *
  obtain ⟨W1, hW1⟩ : ∃ W1, W1 = (w.alloc (.cells #[.slice CA0 L cc0, rv, fv, av, bv] 79)).alloc (.cells #[.int .i64 0, .bool false, .int .i64 0, .int .i64 0] 63) := ⟨_, rfl⟩
  have hb1 : Below w.heap.size w W1 := by rw [hW1]; exact keep_alloc (below_alloc _ _) _
  have r1 : Row W1 w.heap.size 79 #[.slice CA0 L cc0, rv, fv, av, bv] := by rw [hW1]; exact (Row.made w _ _).later _
  have r2 : Row W1 (w.heap.size + 1) 63 #[.int .i64 0, .bool false, .int .i64 0, .int .i64 0] := by rw [hW1]; exact Row.made_at _ _ _ (by simp)
  obtain ⟨k0, k1, k2, k3, k4⟩ := box5 r1
  have hgm : gm < w.heap.size := ha.mp.lt
  have SA := Lib.hid hsa; have GI := Lib.hid hgi; have FU := Lib.hid hful; have HM := Lib.hid hmem; have FF := Lib.hid hff; have FC := Lib.hid hfc; have FN := Lib.hid hfn; have CL := Lib.hid hcls; have HA := Lib.hid ha; have HB := Lib.hid hb1; have R1 := Lib.hid r1; have R2 := Lib.hid r2; have HLF := Lib.hid hlF; have HLC := Lib.hid hlC; have HFF := Lib.hid hFF; have HGM := Lib.hid hgm
  clear hsa hgi hful hmem hff hfc hfn hcls ha hb1 r1 r2 hlF hlC hFF hL hlow h0 h1 H hgm
  go_enter Try.func46, Try.ntmps46
  go_upto_region 1 with (fail)
  rw [← hW1]
  clear hW1
  go_upto_region 2 with (first | (go_at_call 57; (with_reducible refine (SA.out _ (HA.out.step HB.out).vw).mono ?_); rintro e w2 ⟨v2, rfl, o2, b2⟩; have O2 := Lib.hid (own_V o2 (Nat.le_trans HLF.out (by show _ ≤ 9223372036854775807; omega))); have B2 := Lib.hid b2; clear o2 b2) | fail)
  obtain ⟨FA, fc, rfl, _, hFn⟩ := O2.out
  have S1 := Lib.hid (R1.out.step B2.out); have S2 := Lib.hid (R2.out.step B2.out); have BB := Lib.hid (below_step HB.out B2.out); have HFN := Lib.hid hFn
  clear O2 R1 R2 HB hFn k0 k1 k2 k3 k4
  obtain ⟨M, hM⟩ : ∃ M, M = F.length := ⟨_, rfl⟩
  rw [← hM]
  have HM0 := Lib.hid hM; have HL0 := Lib.hid (show M ≤ 9223372036854775807 by rw [hM]; exact Nat.le_trans HLF.out (by omega))
  clear hM
  by_cases hM0 : 0 < M
  · obtain ⟨x, hx0⟩ : ∃ y, F[0]? = some y := at_lt (by rw [← HM0.out]; exact hM0)
    have hx : x ∈ F := List.mem_of_getElem? hx0
    have hfx := FF.out x (isL S) hx
    obtain ⟨bb, o, hA, hbb, e0⟩ := HFN.out.at hx0
    subst hA
    rw [Nat.add_zero] at e0
    have hbf := fun W => byFact_any n x W
    unfold fdC at hbf
    dsimp only at hbf
    have hl0 := HL0.out
    have HX := Lib.hid hfx; have BF := Lib.hid hbf
    clear hx hx0 hfx hbf FF FC FN CL FU SA GI HM HLF HLC HFF HFN HL0
    have hM1 : (0 : Int) < (M : Int) := by omega
    go_wp2_with (first | (go_at_call 58; (with_reducible refine (BF.out _).mono ?_); rintro e w3 ⟨rfl, b3⟩; have q2 := S2.out.step b3; obtain ⟨z0, z1, z2, z3⟩ := box4 q2; have y0 := q2.free 0; have y1 := q2.free 1; have y2 := q2.free 2; have y3 := q2.free 3; have Q2 := Lib.hid q2; have B3 := Lib.hid (below_step BB.out b3); clear q2 b3) | fail)
    refine bodyPost_ret (res_fd rfl rfl (((Q2.out.stored 0 _).stored 1 _).stored 2 _ |>.stored 3 _)) rfl ?_
    have hbf := (((B3.out.setCell (p := ⟨w.heap.size + 1, 0, none⟩) (Nat.le_succ _) (.int .i64 n)).setCell (p := ⟨w.heap.size + 1, 1, none⟩) (Nat.le_succ _) (.bool true)).setCell (p := ⟨w.heap.size + 1, 2, none⟩) (Nat.le_succ _) (.int .i64 x)).setCell (p := ⟨w.heap.size + 1, 3, none⟩) (Nat.le_succ _) (.int .i64 (-1))
    exact ⟨(n, true, x, -1), S, rfl, ⟨rfl, HX.out.1.symm, HX.out.2⟩, Grw.refl n S, HA.out.step hbf, grown_below hbf _⟩
  · have hM00 : M = 0 := by omega
    have hFe : F = [] := List.eq_nil_of_length_eq_zero (by rw [← HM0.out]; exact hM00)
    subst hM00
    have HFE := Lib.hid hFe
    obtain ⟨k0, k1, k2, k3, k4⟩ := box5 S1.out
    clear hFe HM0 HL0 HFN HLF HFF SA FF hM0
    go_upto_region 5 with (first | (go_at_call 35; (with_reducible refine (GI.out _ (HA.out.step BB.out).vw).mono ?_); rintro e w3 ⟨v3, rfl, o3, b3⟩; obtain ⟨CA, cc, rfl, _, _⟩ := own_V o3 (Nat.le_trans HLC.out (by show _ ≤ 9223372036854775807; omega)); have O3 := Lib.hid (own_V o3 (Nat.le_trans HLC.out (by show _ ≤ 9223372036854775807; omega))); have B3 := Lib.hid b3; clear o3 b3) | fail)
    have T1 := Lib.hid (S1.out.step B3.out); have T2 := Lib.hid (S2.out.step B3.out); have BC := Lib.hid (below_step BB.out B3.out)
    obtain ⟨K, hK⟩ : ∃ K, K = C.length := ⟨_, rfl⟩
    rw [← hK]
    have HK := Lib.hid hK; have hK9 : K ≤ 9223372036854775807 := by rw [hK]; exact Nat.le_trans HLC.out (by omega)
    clear S1 S2 BB B3 GI hK k0 k1 k2 k3 k4 HLC
    go_wp2
    go_loopg [9, 25] K (fun kx s9 s25 wr => ∃ (k : Nat) (S1 : List Fd), s25 = .int .i64 (k : Int) ∧ k + kx = K ∧ Grw n S S1 ∧ AtS b q (.slice CA0 L cc0) rv fv av bv gm g5 g2 g6 S1 wr ∧ w.grownBy wr (some gm) ∧ Row wr w.heap.size 79 #[.slice CA0 L cc0, rv, fv, av, bv] ∧ Row wr (w.heap.size + 1) 63 #[.int .i64 0, .bool false, .int .i64 0, .int .i64 0] ∧ Nums wr wr.heap.size CA C ∧ Hid (∀ i ∈ C.take k, exB (isL S1) (clsOf b i) = true))
    case atStart => exact ⟨0, S, rfl, by omega, Grw.refl n S, HA.out.step BC.out, grown_below BC.out _, T1.out, T2.out, by obtain ⟨A', c', e', _, h'⟩ := O3.out; cases e'; exact h', Lib.hid (fun i hi => by simp at hi)⟩
    case round =>
      clear T1 T2 O3 BC
      obtain ⟨k, S1, rfl, hk, hgr, hat, hwg, hr1, hr2, hN, I⟩ := hrel
      by_cases hlt : k < K
      · obtain ⟨i, hi⟩ : ∃ y, C[k]? = some y := at_lt (by rw [← HK.out]; exact hlt)
        obtain ⟨bb, o, hA, hbb, e0⟩ := hN.at hi
        subst hA
        obtain ⟨⟨hi0, hi1⟩, him⟩ := HM.out i (List.mem_of_getElem? hi)
        obtain ⟨j, rfl⟩ := Int.eq_ofNat_of_zero_le hi0
        rw [Int.toNat_natCast] at hi1
        obtain ⟨x, b2, o2, NA, BA, nc, bc, hx, hCA, ⟨n9, hNN⟩, ⟨b9, hBB⟩, c0, c1, c2, c3, c4, c5⟩ := CL.out j wr hat.vw.1 hi1
        subst hCA
        have hfu := FU.out x (j : Int) hx him NA BA nc bc n9 b9 S1 wr hat hNN hBB
        have hyes := fun (S2 : List Fd) (hc : Cld b q S2) (ho : okB (isL S2) x = true) => FC.out (j : Int) S2 hc him (by rw [hx]; exact ho)
        have htk : C.take (k + 1) = C.take k ++ [(j : Int)] := by rw [List.take_add_one, hi]; rfl
        obtain ⟨v0, _, _, _, _⟩ := box5 hr1
        have hj1 : (j : Int) < (L : Int) := by omega
        unfold clsC at hfu
        have HX := Lib.hid hx; have FUW := Lib.hid hfu; have HY := Lib.hid hyes; have HTK := Lib.hid htk; have HG := Lib.hid hgr; have HAT := Lib.hid hat; have HW := Lib.hid hwg; have H1 := Lib.hid hr1; have H2 := Lib.hid hr2; have HN := Lib.hid hN
        have hkn : ∀ (X : World), wr.grownBy X (some gm) → KeepC wr X := fun X hX => keep_of hX fun g e => (HAT.out.nocell g e).2
        have HKN := Lib.hid hkn
        have hbc := fun W => byClause_any n (j : Int) W
        unfold fdC at hbc
        dsimp only at hbc
        have BCL := Lib.hid hbc
        clear hfu hyes hx htk hgr hat hwg hr1 hr2 hN hi him hNN hBB n9 b9 hkn hbc hi0
        generalize hln : x.needs.length = ln at *
        generalize hlb : x.bars.length = lb at *
        go_wp2_with (first
          | (go_at_call 59; (with_reducible refine FUW.out.mono ?_); rintro e w5 ⟨b5, S2, rfl, hle, hat2, hy, hno, hg5⟩; have LE := Lib.hid hle; have A2 := Lib.hid hat2; have HY2 := Lib.hid hy; have HNO := Lib.hid hno; have G5 := Lib.hid hg5; clear hle hat2 hy hno hg5; cases b5)
          | (go_at_call 60; (with_reducible refine (BCL.out _).mono ?_); rintro e w6 ⟨rfl, b6⟩; have q2 := (H2.out.grown G5.out (row_ne HAT.out H2.out (by simp))).step b6; obtain ⟨z0, z1, z2, z3⟩ := box4 q2; have y0 := q2.free 0; have y1 := q2.free 1; have y2 := q2.free 2; have y3 := q2.free 3; have Q2 := Lib.hid q2; have B6 := Lib.hid b6; clear q2 b6)
          | fail)
        · go_roundg (K - (k + 1))
          case measure => omega
          case rel =>
            refine ⟨k + 1, S2, by go_num, by omega, HG.out.trans LE.out (Int.le_refl _), A2.out, grown_next HW.out G5.out, H1.out.grown G5.out (row_ne HAT.out H1.out (by simp)), H2.out.grown G5.out (row_ne HAT.out H2.out (by simp)), HN.out.keepc (HKN.out _ G5.out), Lib.hid ?_⟩
            rw [HTK.out]
            intro i hi
            rcases List.mem_append.1 hi with hi | hi
            · exact exB_mono LE.out.is (I.out i hi)
            · rw [List.mem_singleton.1 hi, HX.out]
              exact ex_of_no (HNO.out (by trivial))
        · refine bodyPost_ret (res_fd rfl rfl (((Q2.out.stored 0 _).stored 1 _).stored 2 _ |>.stored 3 _)) rfl ?_
          obtain ⟨p1, p2⟩ := HY2.out (by trivial)
          obtain ⟨r1, r2⟩ := HY.out S2 A2.out.cl (ok_of_yes p1 p2)
          obtain ⟨z1', z2'⟩ := at_res HA.out (grown_next (grown_next HW.out G5.out) (grown_below B6.out _)) (A2.out.mp.step B6.out) A2.out.cl (Nat.le_succ _) (.int .i64 n) (.bool true) (.int .i64 (-1)) (.int .i64 (j : Int))
          exact ⟨(n, true, -1, (j : Int)), S2, rfl, ⟨rfl, r1.symm, r2⟩, HG.out.trans LE.out (Int.le_refl _), z1', z2'⟩
      · have hI := I.out
        rw [List.take_of_length_le (by rw [← HK.out]; omega)] at hI
        have hfn := FN.out S1 hat.cl HFE.out hI
        have HFN := Lib.hid hfn; have HG := Lib.hid hgr; have HAT := Lib.hid hat; have HW := Lib.hid hwg; have H2 := Lib.hid hr2
        have hbc := fun W => notSo_any n W
        unfold fdC at hbc
        dsimp only at hbc
        have BCL := Lib.hid hbc
        clear hI I hfn hgr hat hwg hr1 hr2 hN hbc
        go_wp2_with (first
          | (go_at_call 61; (with_reducible refine (BCL.out _).mono ?_); rintro e w6 ⟨rfl, b6⟩; have q2 := H2.out.step b6; obtain ⟨z0, z1, z2, z3⟩ := box4 q2; have y0 := q2.free 0; have y1 := q2.free 1; have y2 := q2.free 2; have y3 := q2.free 3; have Q2 := Lib.hid q2; have B6 := Lib.hid b6; clear q2 b6)
          | fail)
        refine bodyPost_ret (res_fd rfl rfl (((Q2.out.stored 0 _).stored 1 _).stored 2 _ |>.stored 3 _)) rfl ?_
        obtain ⟨z1', z2'⟩ := at_res HA.out (grown_next HW.out (grown_below B6.out _)) (HAT.out.mp.step B6.out) HAT.out.cl (Nat.le_succ _) (.int .i64 n) (.bool false) (.int .i64 (-1)) (.int .i64 (-1))
        exact ⟨(n, false, -1, -1), S1, rfl, ⟨rfl, HFN.out.1.symm, HFN.out.2⟩, HG.out, z1', z2'⟩
end Go.Proofs.Ytiglkecmamnphaa
