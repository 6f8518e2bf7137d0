/- right. -/
import Derived.Test.YtiglkecmamnphaaRt
import Derived.Laws.EntriesVeiled
namespace Go.Proofs.Ytiglkecmamnphaa
open Go.RowKit Go.Sort Go.Lib

set_option maxRecDepth 100000 in
set_option maxHeartbeats 8000000 in
theorem right2_any (b : Bk) (l : List Fd) (LA : Option Addr) (lc : Nat) (h9 : l.length ≤ Big) (cv rv fv av bv : Value) (W : World) (hw : BkV W W.heap.size cv rv fv b) (gv gi gl : Nat) (hv : Row W gv 79 #[cv, rv, fv, av, bv]) (hl : FdsC W LA l) (hg : W.cell? ⟨gl, 0, none⟩ = some (.slice LA l.length lc)) (hi : W.cell? ⟨gi, 0, none⟩ = some (.func (.func 64) #[] #[.pointer (some ⟨gl, 0, none⟩)])) (i : Nat) (hlt : i < b.cls.length) :
    Calls Try.prog 67 #[.int .i64 (i : Int), .pointer (some ⟨gv, 0, none⟩), .pointer (some ⟨gi, 0, none⟩)] W fun e w' => e = .returned (.bool (!exB (isL l) (clsOf b (i : Int)))) ∧ Below W.heap.size W w' := by
  obtain ⟨x, hx⟩ := at_lt hlt
  have hof : clsOf b (i : Int) = x := by unfold clsOf; rw [Int.toNat_natCast, hx]; rfl
  rw [hof]
  obtain ⟨CA, cc, rfl, hc9, _⟩ := hw.1
  obtain ⟨bb, o, NA, BA, nc, bc, hA, hbb, ⟨n9, hN⟩, ⟨b9, hB⟩, e0, e1, e2, e3, e4, e5⟩ := hw.1.get hx
  subst hA
  obtain ⟨k0, _, _, _, _⟩ := box5 hv
  have hex := fun (X : World) (h : Below W.heap.size W X) => exc_pure l LA lc h9 gl x NA BA nc bc n9 b9 X (hl.deep h) ((h.cell (p := ⟨gl, 0, none⟩) (World.block_lt_of_cell? _ _ hg)).trans hg) (hN.deep h) (hB.deep h)
  unfold clsC at hex
  generalize exB (isL l) x = d at *
  generalize x.needs.length = ln at *
  generalize x.bars.length = lb at *
  obtain ⟨xp, xf, xt, _, _, xg⟩ := x
  dsimp only at *
  obtain ⟨L, hL⟩ : ∃ L, L = b.cls.length := ⟨_, rfl⟩
  rw [← hL] at hlt hc9 k0
  replace hc9 : L ≤ 9223372036854775807 := hc9
  have hi' : (i : Int) < (L : Int) := by omega
  have K0 := cell_regrown k0; have KI := cell_regrown hi; have E0 := cell_regrown e0; have E1 := cell_regrown e1; have E2 := cell_regrown e2; have E3 := cell_regrown e3; have E4 := cell_regrown e4; have E5 := cell_regrown e5
  have HX := Lib.hid hex
  clear hw hv e0 e1 e2 e3 e4 e5 hL hx hof k0 hi hg hl hN hB hex n9 b9 h9
  go_enter Try.func67, Try.ntmps67
  go_upto_region 1 with (fail)
  refine wp_region_quiet_below (by kernel_rfl) (by kernel_rfl) ?_
  repeat (go_big_quiet_step (first | (go_at_call 68; with_reducible exact Calls.regrown_of (HX.out _ (below_regrown _ _ _))) | fail))
  refine wpQuiet_nil ?_; intro _ hw'; obtain ⟨⟨dq, osq⟩, hw''⟩ := hw'; subst hw''
  go_wp2
  go_ret
  exact ⟨rfl, below_regrown _ _ _⟩

/-- Memory while right runs: the view, the finding, the list and the function. -/
structure Rg (w : World) (cv rv fv av bv : Value) (f : Fd) (lv : Value) (W : World) : Prop where
  b : Below w.heap.size w W
  r1 : Row W w.heap.size 79 #[cv, rv, fv, av, bv]
  r2 : Row W (w.heap.size + 1) 63 (fdC f)
  r3 : Row W (w.heap.size + 1 + 1) 28 #[lv]
  r4 : Row W (w.heap.size + 1 + 1 + 1) 94 #[.func (.func 64) #[] #[.pointer (some ⟨w.heap.size + 1 + 1, 0, none⟩)]]
theorem Rg.step {w W X : World} {cv rv fv av bv lv : Value} {f : Fd} (h : Rg w cv rv fv av bv f lv W) (hb : Below W.heap.size W X) : Rg w cv rv fv av bv f lv X := ⟨below_step h.b hb, h.r1.step hb, h.r2.step hb, h.r3.step hb, h.r4.step hb⟩

theorem right_if (b : Bk) (q : Qn) (is : Int → Bool → Bool) (n fa cl : Int) :
    rightB b q is (n, false, -1, -1) = ((sF b q n).isEmpty && (sC b q n).all fun i => exB is (clsOf b i)) ∧
    (cl ≠ -1 → rightB b q is (n, false, fa, cl) = false) ∧ (fa ≠ -1 → rightB b q is (n, false, fa, cl) = false) ∧
    rightB b q is (n, true, fa, -1) = (sF b q n).contains fa ∧
    (cl ≠ -1 → rightB b q is (n, true, -1, cl) = ((sC b q n).contains cl && okB is (clsOf b cl))) ∧
    (cl ≠ -1 → fa ≠ -1 → rightB b q is (n, true, fa, cl) = false) := by
  refine ⟨by simp [rightB], fun h => ?_, fun h => ?_, by simp [rightB], fun h => ?_, fun h1 h2 => ?_⟩
  · simp [rightB, h]
  · simp [rightB, h]
  · simp [rightB, h]
  · simp [rightB, h1, h2]

set_option maxRecDepth 100000 in
set_option maxHeartbeats 40000000 in
theorem right_any (b : Bk) (q : Qn) (f : Fd) (l : List Fd) (LA : Option Addr) (lc : Nat) (h9 : l.length ≤ Big) (cv rv fv av bv : Value) (w : World) (hw : VwV w w.heap.size cv rv fv av bv b q) (hc20 : b.cls.length ≤ 20) (hf20 : b.fct.length ≤ 20) (hl : FdsC w LA l) :
    Calls Try.prog 49 #[.agg #[cv, rv, fv, av, bv], .agg (fdC f), .slice LA l.length lc] w fun e w' => e = .returned (.bool (rightB b q (isL l) f)) ∧ Below w.heap.size w w' := by
  obtain ⟨CA0, cc0, rfl, hc9, _⟩ := hw.1.1
  obtain ⟨n, hd, fa, cl⟩ := f
  obtain ⟨e1, e2, e3, e4, e5, e6⟩ := right_if b q (isL l) n fa cl
  have hsa := fun (W : World) (h : Below w.heap.size w W) => saying_any b q n (.slice CA0 b.cls.length cc0) rv fv av bv W (hw.deep h) hf20
  have hgi := fun (W : World) (h : Below w.heap.size w W) => giving_any b q n (.slice CA0 b.cls.length cc0) rv fv av bv W (hw.deep h) hc20
  have hmem : ∀ i ∈ sC b q n, 0 ≤ i ∧ i.toNat < b.cls.length := fun i hi => (mem_aC.1 (mem_sC.1 hi).1).1
  have hlF : (sF b q n).length ≤ Big := by
    have h1 := List.length_filter_le (fun i => decide ((fctOf b i).says = n)) (aF b q)
    have h2 := len_aF b q
    show _ ≤ 9223372036854775807
    unfold sF
    omega
  have hlC : (sC b q n).length ≤ Big := by
    have h1 := List.length_filter_le (fun i => decide ((clsOf b i).gives = n)) (aC b q)
    have h2 := len_aC b q
    show _ ≤ 9223372036854775807
    unfold sC
    omega
  -- the closure of right$2, at the clauses that give n
  have hop := fun (W : World) (hW : Below w.heap.size w W) (hr : Rg w (.slice CA0 b.cls.length cc0) rv fv av bv (n, hd, fa, cl) (.slice LA l.length lc) W) (CA : Option Addr) (cc : Nat) (hC : Nums W W.heap.size CA (sC b q n)) =>
    conI (sC b q n) CA cc 67 #[.pointer (some ⟨w.heap.size, 0, none⟩), .pointer (some ⟨w.heap.size + 1 + 1 + 1, 0, none⟩)] (enters_of Try.func67 (by kernel_rfl) rfl) hlC
      (fun k X => Below W.heap.size W X ∧ ((sC b q n).take k).all (fun i => exB (isL l) (clsOf b i)) = true) (fun X => Below W.heap.size W X ∧ (sC b q n).all (fun i => exB (isL l) (clsOf b i)) = false) W (fun _ _ h => hC.deep h.1) ⟨Below.refl _ _, by simp⟩
      (fun k x X hx hJ => by
        have hm := hmem x (List.mem_of_getElem? hx)
        obtain ⟨i, rfl⟩ := Int.eq_ofNat_of_zero_le hm.1
        have hrX := hr.step hJ.1
        refine (right2_any b l LA lc h9 (.slice CA0 b.cls.length cc0) rv fv av bv X (hw.deep hrX.b).1 w.heap.size (w.heap.size + 1 + 1 + 1) (w.heap.size + 1 + 1) hrX.r1 (hl.deep hrX.b) (hrX.r3.at rfl) (hrX.r4.at rfl) i (by simpa using hm.2)).mono fun e w' hh => ⟨_, hh.1, fun hb => ⟨below_step hJ.1 hh.2, List.all_eq_false.2 ⟨_, List.mem_of_getElem? hx, by simpa using hb⟩⟩, fun hb => ⟨below_step hJ.1 hh.2, ?_⟩⟩
        rw [List.take_add_one, hx, List.all_append, hJ.2]
        simpa using hb)
  have hop2 : ∀ (W : World), Rg w (.slice CA0 b.cls.length cc0) rv fv av bv (n, hd, fa, cl) (.slice LA l.length lc) W → ∀ v, IntsV W W.heap.size v (sC b q n) → Calls Try.prog 69 #[v, .func (.func 67) #[] #[.pointer (some ⟨w.heap.size, 0, none⟩), .pointer (some ⟨w.heap.size + 1 + 1 + 1, 0, none⟩)]] W fun e w' => e = .returned (.bool (!(sC b q n).all fun i => exB (isL l) (clsOf b i))) ∧ Below W.heap.size W w' := fun W hr v hv => by
    obtain ⟨CA, cc, rfl, _, hC⟩ := hv
    refine (hop W hr.b hr CA cc hC).mono fun e w' ⟨r, he, h1, h2⟩ => ?_
    cases r
    · obtain ⟨k1, k2⟩ := h2 rfl
      rw [List.take_of_length_le (Nat.le_refl _)] at k2
      exact ⟨by rw [he, k2]; rfl, k1⟩
    · obtain ⟨k1, k2⟩ := h1 rfl
      exact ⟨by rw [he, k2]; rfl, k1⟩
  have hcon := fun (v : Value) (x : Int) (W : World) (hv : IntsV W W.heap.size v (sF b q n)) => contains_any v (sF b q n) x W hv
  have hcon2 := fun (v : Value) (x : Int) (W : World) (hv : IntsV W W.heap.size v (sC b q n)) => contains_any v (sC b q n) x W hv
  have hful : ∀ k : Nat, (hk : k < b.cls.length) → ∃ (bb o : Nat) (NA BA : Option Addr) (nc bc : Nat) (x : Cls), clsOf b (k : Int) = x ∧ CA0 = some ⟨bb, o, none⟩ ∧
      (∀ W, Below w.heap.size w W → W.cell? ⟨bb, o + k * 6, none⟩ = some (.int .i64 x.pub) ∧ W.cell? ⟨bb, o + k * 6 + 1, none⟩ = some (.int .i64 x.sf) ∧ W.cell? ⟨bb, o + k * 6 + 2, none⟩ = some (.int .i64 x.st) ∧ W.cell? ⟨bb, o + k * 6 + 3, none⟩ = some (.slice NA x.needs.length nc) ∧ W.cell? ⟨bb, o + k * 6 + 4, none⟩ = some (.slice BA x.bars.length bc) ∧ W.cell? ⟨bb, o + k * 6 + 5, none⟩ = some (.int .i64 x.gives)) ∧
      ∀ W, Rg w (.slice CA0 b.cls.length cc0) rv fv av bv (n, hd, fa, cl) (.slice LA l.length lc) W → Calls Try.prog 59 #[.agg (clsC x (.slice NA x.needs.length nc) (.slice BA x.bars.length bc)), .func (.func 64) #[] #[.pointer (some ⟨w.heap.size + 1 + 1, 0, none⟩)]] W fun e w' => e = .returned (.bool (okB (isL l) x)) ∧ Below W.heap.size W w' := fun k hk => by
    obtain ⟨x, hx⟩ := at_lt hk
    have hof : clsOf b (k : Int) = x := by unfold clsOf; rw [Int.toNat_natCast, hx]; rfl
    obtain ⟨bb, o, NA, BA, nc, bc, hA, hbb, ⟨n9, hN⟩, ⟨b9, hB⟩, c0, c1, c2, c3, c4, c5⟩ := hw.1.1.get hx
    exact ⟨bb, o, NA, BA, nc, bc, x, hof, hA, fun W hW => ⟨(hW.cell (p := ⟨bb, o + k * 6, none⟩) hbb).trans c0, (hW.cell (p := ⟨bb, o + k * 6 + 1, none⟩) hbb).trans c1, (hW.cell (p := ⟨bb, o + k * 6 + 2, none⟩) hbb).trans c2, (hW.cell (p := ⟨bb, o + k * 6 + 3, none⟩) hbb).trans c3, (hW.cell (p := ⟨bb, o + k * 6 + 4, none⟩) hbb).trans c4, (hW.cell (p := ⟨bb, o + k * 6 + 5, none⟩) hbb).trans c5⟩,
      fun W hr => ful_pure l LA lc h9 (w.heap.size + 1 + 1) x NA BA nc bc n9 b9 W (hl.deep hr.b) (hr.r3.at rfl) (hN.deep hr.b) (hB.deep hr.b)⟩
  obtain ⟨L, hL⟩ : ∃ L, L = b.cls.length := ⟨_, rfl⟩
  obtain ⟨K, hK⟩ : ∃ K, K = l.length := ⟨_, rfl⟩
  simp only [← hL, ← hK] at hsa hgi hop2 hful hc9 hmem ⊢
  replace hc9 : L ≤ 9223372036854775807 := hc9
  obtain ⟨W1, hW1⟩ : ∃ W1, W1 = (((w.alloc (.cells #[.slice CA0 L cc0, rv, fv, av, bv] 79)).alloc (.cells #[.int .i64 n, .bool hd, .int .i64 fa, .int .i64 cl] 63)).alloc (.cells #[.slice LA K lc] 28)).alloc (.cells #[.func (.func 64) #[] #[.pointer (some ⟨w.heap.size + 1 + 1, 0, none⟩)]] 94) := ⟨_, rfl⟩
  have hr : Rg w (.slice CA0 L cc0) rv fv av bv (n, hd, fa, cl) (.slice LA K lc) W1 := by
    rw [hW1]
    exact ⟨keep_alloc (keep_alloc (keep_alloc (below_alloc _ _) _) _) _, (((Row.made w _ _).later _).later _).later _, ((Row.made_at _ _ _ (by simp)).later _).later _, (Row.made_at _ _ _ (by simp)).later _, Row.made_at _ _ _ (by simp)⟩
  have SA := Lib.hid hsa; have GI := Lib.hid hgi; have OP := Lib.hid hop2; have FU := Lib.hid hful; have CF := Lib.hid hcon; have CC := Lib.hid hcon2; have RG := Lib.hid hr; have HM := Lib.hid hmem
  have E1 := Lib.hid e1; have E2 := Lib.hid e2; have E3 := Lib.hid e3; have E4 := Lib.hid e4; have E5 := Lib.hid e5; have E6 := Lib.hid e6
  have hIE : (sF b q n).isEmpty = decide ((sF b q n).length = 0) := by cases sF b q n <;> simp
  rw [hIE] at e1
  replace E1 := Lib.hid e1
  have HLF := Lib.hid hlF; have HLC := Lib.hid hlC
  clear hsa hgi hop hop2 hful hcon hcon2 hr hmem e1 e2 e3 e4 e5 e6 hIE hw hl hL hK h9 hlF hlC hc20 hf20
  unfold fdC
  dsimp only
  generalize sF b q n = F at *
  generalize sC b q n = C at *
  go_enter Try.func49, Try.ntmps49
  go_upto_region 2 with (fail)
  rw [← hW1]
  clear hW1
  go_cut [8, 9] (fun s8 s9 W => ∃ v1 v2, s8 = v1 ∧ s9 = v2 ∧ IntsV W W.heap.size v1 F ∧ IntsV W W.heap.size v2 C ∧ Below W1.heap.size W1 W)
  case first =>
    have kp : ∀ W, Below W1.heap.size W1 W → (Below W1.heap.size W1 W ∧ W.cell? ⟨w.heap.size, 0, none⟩ = some (.slice CA0 L cc0) ∧ W.cell? ⟨w.heap.size, 1, none⟩ = some rv ∧ W.cell? ⟨w.heap.size, 2, none⟩ = some fv ∧ W.cell? ⟨w.heap.size, 3, none⟩ = some av ∧ W.cell? ⟨w.heap.size, 4, none⟩ = some bv ∧ W.cell? ⟨w.heap.size + 1, 0, none⟩ = some (.int .i64 n)) := fun W b => by
      have h := RG.out.step b
      exact ⟨b, h.r1.at rfl, h.r1.at rfl, h.r1.at rfl, h.r1.at rfl, h.r1.at rfl, h.r2.at rfl⟩
    have KP := Lib.hid kp
    clear kp
    first
      | (go_region_held3 (fun W => (Below W1.heap.size W1 W ∧ W.cell? ⟨w.heap.size, 0, none⟩ = some (.slice CA0 L cc0) ∧ W.cell? ⟨w.heap.size, 1, none⟩ = some rv ∧ W.cell? ⟨w.heap.size, 2, none⟩ = some fv ∧ W.cell? ⟨w.heap.size, 3, none⟩ = some av ∧ W.cell? ⟨w.heap.size, 4, none⟩ = some bv ∧ W.cell? ⟨w.heap.size + 1, 0, none⟩ = some (.int .i64 n)))
          (first | assumption | exact KP.out _ ((Below.refl _ _).drew) | exact KP.out _ (below_step (And.left (by assumption)) (by assumption)) | fail)
          (first
            | (go_at_call 57; (with_reducible refine (SA.out _ (below_step RG.out.b (And.left (by assumption)))).mono ?_); rintro e w8 ⟨v8, rfl, o8, b8⟩; have O8 := Lib.hid (own_V o8 HLF.out); clear o8; (try (have O9' := Lib.hid (O9.out.deep b8); clear O9; have O9 := O9'; clear O9')))
            | (go_at_call 35; (with_reducible refine (GI.out _ (below_step RG.out.b (And.left (by assumption)))).mono ?_); rintro e w9 ⟨v9, rfl, o9, b9⟩; have O9 := Lib.hid (own_V o9 HLC.out); clear o9; (try (have O8' := Lib.hid (O8.out.deep b9); clear O8; have O8 := O8'; clear O8')))
            | fail))
      | fail
    all_goals go_wp2_with fail
    all_goals go_meet
    all_goals (case rel => exact ⟨_, _, rfl, rfl, O8.out, O9.out, And.left (by assumption)⟩)
  case rest =>
  obtain ⟨v1, v2, rfl, rfl, hF, hC, hb⟩ := hcut
  obtain ⟨WQ, hWQ⟩ : ∃ X, X = wc := ⟨_, rfl⟩
  rw [← hWQ] at hF hC hb ⊢
  clear hWQ
  have rg := RG.out.step hb
  have hns := fun W => notSo_any n W
  have hbf := fun W => byFact_any n fa W
  have hbc := fun W => byClause_any n cl W
  unfold fdC at hns hbf hbc
  dsimp only at hns hbf hbc
  have NS := Lib.hid hns; have BF := Lib.hid hbf; have BC := Lib.hid hbc; have HF := Lib.hid hF; have HC := Lib.hid hC
  replace RG := Lib.hid rg
  clear rg hns hbf hbc hF hC hb SA GI HLF HLC
  cases hd
  case false =>
    by_cases hfa : fa = -1
    · subst hfa
      by_cases hcl : cl = -1
      · subst hcl
        have EQ := E1
        clear E1 E2 E3 E4 E5 E6 CF CC FU BF BC
        go_upto_region 3 with (fail)
        obtain ⟨m0, m1, m2, m3⟩ := box4 (by have h := RG.out.r2; unfold fdC at h; exact h)
        have M0 := cell_regrown m0; have M1 := cell_regrown m1; have M2 := cell_regrown m2; have M3 := cell_regrown m3
        clear m0 m1 m2 m3
        refine wp_region_quiet_below (by kernel_rfl) (by kernel_rfl) ?_
        repeat (go_big_quiet_step (first | (go_at_call 61; with_reducible exact Calls.regrown_of (NS.out _)) | (go_at_call 58; with_reducible exact Calls.regrown_of (BF.out _)) | (go_at_call 60; with_reducible exact Calls.regrown_of (BC.out _)) | fail))
        refine wpQuiet_nil ?_; intro _ hw'; obtain ⟨⟨dq, osq⟩, hw''⟩ := hw'; subst hw''
        have bn := below_regrown WQ dq osq
        have rg := RG.out.step bn; have hf := HF.out.deep bn; have hc := HC.out.deep bn
        generalize Sort.grow (redrawn WQ dq) osq = WN at *
        replace RG := Lib.hid rg; replace HF := Lib.hid hf; replace HC := Lib.hid hc
        clear rg hf hc bn M0 M1 M2 M3
        obtain ⟨WQ, hWQ⟩ : ∃ X, X = WN := ⟨_, rfl⟩
        rw [← hWQ] at RG HF HC ⊢
        clear hWQ
        obtain ⟨FA, fc, rfl, hF9, _⟩ := HF.out
        obtain ⟨M, hM⟩ : ∃ M, M = F.length := ⟨_, rfl⟩
        rw [← hM] at hF9 EQ ⊢
        replace hF9 : M ≤ 9223372036854775807 := hF9
        have HCW := Lib.hid (OP.out WQ RG.out _ HC.out)
        have HB := Lib.hid RG.out.b
        clear hM OP HF HC RG NS
        by_cases h0 : M = 0
        · subst h0
          generalize (C.all fun i => exB (isL l) (clsOf b i)) = ca at *
          go_wp2_with (first | (go_at_call 69; (with_reducible refine HCW.out.mono ?_); rintro e w4 ⟨rfl, b4⟩) | fail)
          go_ret
          exact ⟨by rw [EQ.out]; simp, below_step HB.out b4⟩
        · have h0' : ((M : Int) == 0) = false := by simpa using h0
          go_wp2_with fail
          go_ret
          exact ⟨by rw [EQ.out]; simp [h0], HB.out⟩
      · have hcl' : (cl == -1) = false := by simpa using hcl
        have EQ := Lib.hid (E2.out hcl)
        clear E1 E2 E3 E4 E5 E6 CF CC FU OP
        go_upto_region 3 with (fail)
        obtain ⟨m0, m1, m2, m3⟩ := box4 (by have h := RG.out.r2; unfold fdC at h; exact h)
        have M0 := cell_regrown m0; have M1 := cell_regrown m1; have M2 := cell_regrown m2; have M3 := cell_regrown m3
        clear m0 m1 m2 m3
        refine wp_region_quiet_below (by kernel_rfl) (by kernel_rfl) ?_
        repeat (go_big_quiet_step (first | (go_at_call 61; with_reducible exact Calls.regrown_of (NS.out _)) | (go_at_call 58; with_reducible exact Calls.regrown_of (BF.out _)) | (go_at_call 60; with_reducible exact Calls.regrown_of (BC.out _)) | fail))
        refine wpQuiet_nil ?_; intro _ hw'; obtain ⟨⟨dq, osq⟩, hw''⟩ := hw'; subst hw''
        have bn := below_regrown WQ dq osq
        have rg := RG.out.step bn; have hf := HF.out.deep bn; have hc := HC.out.deep bn
        generalize Sort.grow (redrawn WQ dq) osq = WN at *
        replace RG := Lib.hid rg; replace HF := Lib.hid hf; replace HC := Lib.hid hc
        clear rg hf hc bn M0 M1 M2 M3
        obtain ⟨WQ, hWQ⟩ : ∃ X, X = WN := ⟨_, rfl⟩
        rw [← hWQ] at RG HF HC ⊢
        clear hWQ
        go_upto_region 6 with (fail)
        obtain ⟨m0, m1, m2, m3⟩ := box4 (by have h := RG.out.r2; unfold fdC at h; exact h)
        have M0 := cell_regrown m0; have M1 := cell_regrown m1; have M2 := cell_regrown m2; have M3 := cell_regrown m3
        clear m0 m1 m2 m3
        refine wp_region_quiet_below (by kernel_rfl) (by kernel_rfl) ?_
        repeat (go_big_quiet_step (first | (go_at_call 61; with_reducible exact Calls.regrown_of (NS.out _)) | (go_at_call 58; with_reducible exact Calls.regrown_of (BF.out _)) | (go_at_call 60; with_reducible exact Calls.regrown_of (BC.out _)) | fail))
        refine wpQuiet_nil ?_; intro _ hw'; obtain ⟨⟨dq, osq⟩, hw''⟩ := hw'; subst hw''
        have bn := below_regrown WQ dq osq
        have rg := RG.out.step bn; have hf := HF.out.deep bn; have hc := HC.out.deep bn
        generalize Sort.grow (redrawn WQ dq) osq = WN at *
        replace RG := Lib.hid rg; replace HF := Lib.hid hf; replace HC := Lib.hid hc
        clear rg hf hc bn M0 M1 M2 M3
        obtain ⟨WQ, hWQ⟩ : ∃ X, X = WN := ⟨_, rfl⟩
        rw [← hWQ] at RG HF HC ⊢
        clear hWQ
        go_upto_region 8 with (fail)
        obtain ⟨m0, m1, m2, m3⟩ := box4 (by have h := RG.out.r2; unfold fdC at h; exact h)
        have M0 := cell_regrown m0; have M1 := cell_regrown m1; have M2 := cell_regrown m2; have M3 := cell_regrown m3
        clear m0 m1 m2 m3
        refine wp_region_quiet_below (by kernel_rfl) (by kernel_rfl) ?_
        repeat (go_big_quiet_step (first | (go_at_call 61; with_reducible exact Calls.regrown_of (NS.out _)) | (go_at_call 58; with_reducible exact Calls.regrown_of (BF.out _)) | (go_at_call 60; with_reducible exact Calls.regrown_of (BC.out _)) | fail))
        refine wpQuiet_nil ?_; intro _ hw'; obtain ⟨⟨dq, osq⟩, hw''⟩ := hw'; subst hw''
        have bn := below_regrown WQ dq osq
        have rg := RG.out.step bn; have hf := HF.out.deep bn; have hc := HC.out.deep bn
        generalize Sort.grow (redrawn WQ dq) osq = WN at *
        replace RG := Lib.hid rg; replace HF := Lib.hid hf; replace HC := Lib.hid hc
        clear rg hf hc bn M0 M1 M2 M3
        obtain ⟨WQ, hWQ⟩ : ∃ X, X = WN := ⟨_, rfl⟩
        rw [← hWQ] at RG HF HC ⊢
        clear hWQ
        have HB := Lib.hid RG.out.b
        clear RG HF HC
        go_wp2_with fail
        go_ret
        exact ⟨by rw [EQ.out]; rfl, HB.out⟩
    · have hfa' : (fa == -1) = false := by simpa using hfa
      have EQ := Lib.hid (E3.out hfa)
      clear E1 E2 E3 E4 E5 E6 CF CC FU OP
      go_upto_region 3 with (fail)
      obtain ⟨m0, m1, m2, m3⟩ := box4 (by have h := RG.out.r2; unfold fdC at h; exact h)
      have M0 := cell_regrown m0; have M1 := cell_regrown m1; have M2 := cell_regrown m2; have M3 := cell_regrown m3
      clear m0 m1 m2 m3
      refine wp_region_quiet_below (by kernel_rfl) (by kernel_rfl) ?_
      repeat (go_big_quiet_step (first | (go_at_call 61; with_reducible exact Calls.regrown_of (NS.out _)) | (go_at_call 58; with_reducible exact Calls.regrown_of (BF.out _)) | (go_at_call 60; with_reducible exact Calls.regrown_of (BC.out _)) | fail))
      refine wpQuiet_nil ?_; intro _ hw'; obtain ⟨⟨dq, osq⟩, hw''⟩ := hw'; subst hw''
      have bn := below_regrown WQ dq osq
      have rg := RG.out.step bn; have hf := HF.out.deep bn; have hc := HC.out.deep bn
      generalize Sort.grow (redrawn WQ dq) osq = WN at *
      replace RG := Lib.hid rg; replace HF := Lib.hid hf; replace HC := Lib.hid hc
      clear rg hf hc bn M0 M1 M2 M3
      obtain ⟨WQ, hWQ⟩ : ∃ X, X = WN := ⟨_, rfl⟩
      rw [← hWQ] at RG HF HC ⊢
      clear hWQ
      go_upto_region 6 with (fail)
      obtain ⟨m0, m1, m2, m3⟩ := box4 (by have h := RG.out.r2; unfold fdC at h; exact h)
      have M0 := cell_regrown m0; have M1 := cell_regrown m1; have M2 := cell_regrown m2; have M3 := cell_regrown m3
      clear m0 m1 m2 m3
      refine wp_region_quiet_below (by kernel_rfl) (by kernel_rfl) ?_
      repeat (go_big_quiet_step (first | (go_at_call 61; with_reducible exact Calls.regrown_of (NS.out _)) | (go_at_call 58; with_reducible exact Calls.regrown_of (BF.out _)) | (go_at_call 60; with_reducible exact Calls.regrown_of (BC.out _)) | fail))
      refine wpQuiet_nil ?_; intro _ hw'; obtain ⟨⟨dq, osq⟩, hw''⟩ := hw'; subst hw''
      have bn := below_regrown WQ dq osq
      have rg := RG.out.step bn; have hf := HF.out.deep bn; have hc := HC.out.deep bn
      generalize Sort.grow (redrawn WQ dq) osq = WN at *
      replace RG := Lib.hid rg; replace HF := Lib.hid hf; replace HC := Lib.hid hc
      clear rg hf hc bn M0 M1 M2 M3
      obtain ⟨WQ, hWQ⟩ : ∃ X, X = WN := ⟨_, rfl⟩
      rw [← hWQ] at RG HF HC ⊢
      clear hWQ
      go_upto_region 8 with (fail)
      obtain ⟨m0, m1, m2, m3⟩ := box4 (by have h := RG.out.r2; unfold fdC at h; exact h)
      have M0 := cell_regrown m0; have M1 := cell_regrown m1; have M2 := cell_regrown m2; have M3 := cell_regrown m3
      clear m0 m1 m2 m3
      refine wp_region_quiet_below (by kernel_rfl) (by kernel_rfl) ?_
      repeat (go_big_quiet_step (first | (go_at_call 61; with_reducible exact Calls.regrown_of (NS.out _)) | (go_at_call 58; with_reducible exact Calls.regrown_of (BF.out _)) | (go_at_call 60; with_reducible exact Calls.regrown_of (BC.out _)) | fail))
      refine wpQuiet_nil ?_; intro _ hw'; obtain ⟨⟨dq, osq⟩, hw''⟩ := hw'; subst hw''
      have bn := below_regrown WQ dq osq
      have rg := RG.out.step bn; have hf := HF.out.deep bn; have hc := HC.out.deep bn
      generalize Sort.grow (redrawn WQ dq) osq = WN at *
      replace RG := Lib.hid rg; replace HF := Lib.hid hf; replace HC := Lib.hid hc
      clear rg hf hc bn M0 M1 M2 M3
      obtain ⟨WQ, hWQ⟩ : ∃ X, X = WN := ⟨_, rfl⟩
      rw [← hWQ] at RG HF HC ⊢
      clear hWQ
      have HB := Lib.hid RG.out.b
      clear RG HF HC
      go_wp2_with fail
      go_ret
      exact ⟨by rw [EQ.out]; rfl, HB.out⟩
  case true =>
    by_cases hcl : cl = -1
    · subst hcl
      have EQ := Lib.hid E4.out
      clear E1 E2 E3 E4 E5 E6 CC FU OP
      go_upto_region 3 with (fail)
      obtain ⟨m0, m1, m2, m3⟩ := box4 (by have h := RG.out.r2; unfold fdC at h; exact h)
      have M0 := cell_regrown m0; have M1 := cell_regrown m1; have M2 := cell_regrown m2; have M3 := cell_regrown m3
      clear m0 m1 m2 m3
      refine wp_region_quiet_below (by kernel_rfl) (by kernel_rfl) ?_
      repeat (go_big_quiet_step (first | (go_at_call 61; with_reducible exact Calls.regrown_of (NS.out _)) | (go_at_call 58; with_reducible exact Calls.regrown_of (BF.out _)) | (go_at_call 60; with_reducible exact Calls.regrown_of (BC.out _)) | fail))
      refine wpQuiet_nil ?_; intro _ hw'; obtain ⟨⟨dq, osq⟩, hw''⟩ := hw'; subst hw''
      have bn := below_regrown WQ dq osq
      have rg := RG.out.step bn; have hf := HF.out.deep bn; have hc := HC.out.deep bn
      generalize Sort.grow (redrawn WQ dq) osq = WN at *
      replace RG := Lib.hid rg; replace HF := Lib.hid hf; replace HC := Lib.hid hc
      clear rg hf hc bn M0 M1 M2 M3
      obtain ⟨WQ, hWQ⟩ : ∃ X, X = WN := ⟨_, rfl⟩
      rw [← hWQ] at RG HF HC ⊢
      clear hWQ
      go_upto_region 6 with (fail)
      obtain ⟨m0, m1, m2, m3⟩ := box4 (by have h := RG.out.r2; unfold fdC at h; exact h)
      have M0 := cell_regrown m0; have M1 := cell_regrown m1; have M2 := cell_regrown m2; have M3 := cell_regrown m3
      clear m0 m1 m2 m3
      refine wp_region_quiet_below (by kernel_rfl) (by kernel_rfl) ?_
      repeat (go_big_quiet_step (first | (go_at_call 61; with_reducible exact Calls.regrown_of (NS.out _)) | (go_at_call 58; with_reducible exact Calls.regrown_of (BF.out _)) | (go_at_call 60; with_reducible exact Calls.regrown_of (BC.out _)) | fail))
      refine wpQuiet_nil ?_; intro _ hw'; obtain ⟨⟨dq, osq⟩, hw''⟩ := hw'; subst hw''
      have bn := below_regrown WQ dq osq
      have rg := RG.out.step bn; have hf := HF.out.deep bn; have hc := HC.out.deep bn
      generalize Sort.grow (redrawn WQ dq) osq = WN at *
      replace RG := Lib.hid rg; replace HF := Lib.hid hf; replace HC := Lib.hid hc
      clear rg hf hc bn M0 M1 M2 M3
      obtain ⟨WQ, hWQ⟩ : ∃ X, X = WN := ⟨_, rfl⟩
      rw [← hWQ] at RG HF HC ⊢
      clear hWQ
      obtain ⟨m0, m1, m2, m3⟩ := box4 (by have h := RG.out.r2; unfold fdC at h; exact h)
      have HCW := Lib.hid (CF.out _ fa WQ HF.out)
      have HB := Lib.hid RG.out.b
      generalize F.contains fa = r at *
      clear RG HF HC CF
      go_wp2_with (first | (go_at_call 70; (with_reducible refine HCW.out.mono ?_); rintro e w4 ⟨rfl, hw4⟩; have hw4 := hw4.symm; subst hw4) | fail)
      go_ret
      exact ⟨by rw [EQ.out]; rfl, HB.out⟩
    · have hcl' : (cl == -1) = false := by simpa using hcl
      by_cases hfa : fa = -1
      · subst hfa
        have EQ := Lib.hid (E5.out hcl)
        clear E1 E2 E3 E4 E5 E6 CF OP
        go_upto_region 3 with (fail)
        obtain ⟨m0, m1, m2, m3⟩ := box4 (by have h := RG.out.r2; unfold fdC at h; exact h)
        have M0 := cell_regrown m0; have M1 := cell_regrown m1; have M2 := cell_regrown m2; have M3 := cell_regrown m3
        clear m0 m1 m2 m3
        refine wp_region_quiet_below (by kernel_rfl) (by kernel_rfl) ?_
        repeat (go_big_quiet_step (first | (go_at_call 61; with_reducible exact Calls.regrown_of (NS.out _)) | (go_at_call 58; with_reducible exact Calls.regrown_of (BF.out _)) | (go_at_call 60; with_reducible exact Calls.regrown_of (BC.out _)) | fail))
        refine wpQuiet_nil ?_; intro _ hw'; obtain ⟨⟨dq, osq⟩, hw''⟩ := hw'; subst hw''
        have bn := below_regrown WQ dq osq
        have rg := RG.out.step bn; have hf := HF.out.deep bn; have hc := HC.out.deep bn
        generalize Sort.grow (redrawn WQ dq) osq = WN at *
        replace RG := Lib.hid rg; replace HF := Lib.hid hf; replace HC := Lib.hid hc
        clear rg hf hc bn M0 M1 M2 M3
        obtain ⟨WQ, hWQ⟩ : ∃ X, X = WN := ⟨_, rfl⟩
        rw [← hWQ] at RG HF HC ⊢
        clear hWQ
        go_upto_region 6 with (fail)
        obtain ⟨m0, m1, m2, m3⟩ := box4 (by have h := RG.out.r2; unfold fdC at h; exact h)
        have M0 := cell_regrown m0; have M1 := cell_regrown m1; have M2 := cell_regrown m2; have M3 := cell_regrown m3
        clear m0 m1 m2 m3
        refine wp_region_quiet_below (by kernel_rfl) (by kernel_rfl) ?_
        repeat (go_big_quiet_step (first | (go_at_call 61; with_reducible exact Calls.regrown_of (NS.out _)) | (go_at_call 58; with_reducible exact Calls.regrown_of (BF.out _)) | (go_at_call 60; with_reducible exact Calls.regrown_of (BC.out _)) | fail))
        refine wpQuiet_nil ?_; intro _ hw'; obtain ⟨⟨dq, osq⟩, hw''⟩ := hw'; subst hw''
        have bn := below_regrown WQ dq osq
        have rg := RG.out.step bn; have hf := HF.out.deep bn; have hc := HC.out.deep bn
        generalize Sort.grow (redrawn WQ dq) osq = WN at *
        replace RG := Lib.hid rg; replace HF := Lib.hid hf; replace HC := Lib.hid hc
        clear rg hf hc bn M0 M1 M2 M3
        obtain ⟨WQ, hWQ⟩ : ∃ X, X = WN := ⟨_, rfl⟩
        rw [← hWQ] at RG HF HC ⊢
        clear hWQ
        go_upto_region 8 with (fail)
        obtain ⟨m0, m1, m2, m3⟩ := box4 (by have h := RG.out.r2; unfold fdC at h; exact h)
        have M0 := cell_regrown m0; have M1 := cell_regrown m1; have M2 := cell_regrown m2; have M3 := cell_regrown m3
        clear m0 m1 m2 m3
        refine wp_region_quiet_below (by kernel_rfl) (by kernel_rfl) ?_
        repeat (go_big_quiet_step (first | (go_at_call 61; with_reducible exact Calls.regrown_of (NS.out _)) | (go_at_call 58; with_reducible exact Calls.regrown_of (BF.out _)) | (go_at_call 60; with_reducible exact Calls.regrown_of (BC.out _)) | fail))
        refine wpQuiet_nil ?_; intro _ hw'; obtain ⟨⟨dq, osq⟩, hw''⟩ := hw'; subst hw''
        have bn := below_regrown WQ dq osq
        have rg := RG.out.step bn; have hf := HF.out.deep bn; have hc := HC.out.deep bn
        generalize Sort.grow (redrawn WQ dq) osq = WN at *
        replace RG := Lib.hid rg; replace HF := Lib.hid hf; replace HC := Lib.hid hc
        clear rg hf hc bn M0 M1 M2 M3
        obtain ⟨WQ, hWQ⟩ : ∃ X, X = WN := ⟨_, rfl⟩
        rw [← hWQ] at RG HF HC ⊢
        clear hWQ
        cases hm : C.contains cl
        · have HCW := Lib.hid (fun (X : World) (h : Below WQ.heap.size WQ X) => CC.out _ cl X (HC.out.deep h))
          rw [hm] at HCW EQ
          go_upto_region 9 with (fail)
          obtain ⟨m0, m1, m2, m3⟩ := box4 (by have h := RG.out.r2; unfold fdC at h; exact h)
          have M0 := cell_regrown m0; have M1 := cell_regrown m1; have M2 := cell_regrown m2; have M3 := cell_regrown m3
          clear m0 m1 m2 m3
          have HB := Lib.hid RG.out.b
          clear RG HF HC CC FU hm
          refine wp_region_quiet_below (by kernel_rfl) (by kernel_rfl) ?_
          repeat (go_big_quiet_step (first | (go_at_call 70; with_reducible exact Calls.regrown_of ((HCW.out _ (below_regrown _ _ _)).mono fun e W h => ⟨h.1, h.2 ▸ Below.refl _ _⟩)) | fail))
          refine wpQuiet_nil ?_; intro _ hw'; obtain ⟨⟨dq, osq⟩, hw''⟩ := hw'; subst hw''
          go_wp2
          go_ret
          exact ⟨by rw [EQ.out]; rfl, below_step HB.out (below_regrown _ _ _)⟩
        · have HCW := Lib.hid (fun (X : World) (h : Below WQ.heap.size WQ X) => CC.out _ cl X (HC.out.deep h))
          rw [hm] at HCW
          obtain ⟨z0, z1⟩ := HM.out cl (List.contains_iff_mem.1 hm)
          obtain ⟨k, rfl⟩ := Int.eq_ofNat_of_zero_le z0
          rw [Int.toNat_natCast] at z1
          obtain ⟨bb, o, NA, BA, nc, bc, x, hx, hA, hcell, hfu⟩ := FU.out k z1
          subst hA
          rw [hm, hx] at EQ
          unfold clsC at hfu
          generalize okB (isL l) x = d at *
          generalize x.needs.length = ln at *
          generalize x.bars.length = lb at *
          obtain ⟨xp, xf, xt, _, _, xg⟩ := x
          dsimp only at *
          have z1' : (k : Int) < (L : Int) := by omega
          have FUW := Lib.hid (fun (X : World) (h : Below WQ.heap.size WQ X) => hfu X (RG.out.step h))
          go_upto_region 9 with (fail)
          obtain ⟨m0, m1, m2, m3⟩ := box4 (by have h := RG.out.r2; unfold fdC at h; exact h)
          have M0 := cell_regrown m0; have M1 := cell_regrown m1; have M2 := cell_regrown m2; have M3 := cell_regrown m3
          clear m0 m1 m2 m3
          obtain ⟨c0, c1, c2, c3, c4, c5⟩ := hcell WQ RG.out.b
          have C0 := cell_regrown c0; have C1 := cell_regrown c1; have C2 := cell_regrown c2; have C3 := cell_regrown c3; have C4 := cell_regrown c4; have C5 := cell_regrown c5
          have V0 := cell_regrown (RG.out.r1.at (i := 0) (v := .slice (some ⟨bb, o, none⟩) L cc0) rfl)
          have V4 := cell_regrown (RG.out.r4.at (i := 0) (v := .func (.func 64) #[] #[.pointer (some ⟨w.heap.size + 1 + 1, 0, none⟩)]) rfl)
          have HB := Lib.hid RG.out.b
          clear RG HF HC CC FU hm hfu hx c0 c1 c2 c3 c4 c5 hcell
          refine wp_region_quiet_below (by kernel_rfl) (by kernel_rfl) ?_
          repeat (go_big_quiet_step (first | (go_at_call 70; with_reducible exact Calls.regrown_of ((HCW.out _ (below_regrown _ _ _)).mono fun e W h => ⟨h.1, h.2 ▸ Below.refl _ _⟩)) | (go_at_call 59; with_reducible exact Calls.regrown_of (FUW.out _ (below_regrown _ _ _))) | fail))
          refine wpQuiet_nil ?_; intro _ hw'; obtain ⟨⟨dq, osq⟩, hw''⟩ := hw'; subst hw''
          go_wp2
          go_ret
          exact ⟨by rw [EQ.out]; rfl, below_step HB.out (below_regrown _ _ _)⟩
      · have hfa' : (fa == -1) = false := by simpa using hfa
        have EQ := Lib.hid (E6.out hcl hfa)
        clear E1 E2 E3 E4 E5 E6 CF CC FU OP
        go_upto_region 3 with (fail)
        obtain ⟨m0, m1, m2, m3⟩ := box4 (by have h := RG.out.r2; unfold fdC at h; exact h)
        have M0 := cell_regrown m0; have M1 := cell_regrown m1; have M2 := cell_regrown m2; have M3 := cell_regrown m3
        clear m0 m1 m2 m3
        refine wp_region_quiet_below (by kernel_rfl) (by kernel_rfl) ?_
        repeat (go_big_quiet_step (first | (go_at_call 61; with_reducible exact Calls.regrown_of (NS.out _)) | (go_at_call 58; with_reducible exact Calls.regrown_of (BF.out _)) | (go_at_call 60; with_reducible exact Calls.regrown_of (BC.out _)) | fail))
        refine wpQuiet_nil ?_; intro _ hw'; obtain ⟨⟨dq, osq⟩, hw''⟩ := hw'; subst hw''
        have bn := below_regrown WQ dq osq
        have rg := RG.out.step bn; have hf := HF.out.deep bn; have hc := HC.out.deep bn
        generalize Sort.grow (redrawn WQ dq) osq = WN at *
        replace RG := Lib.hid rg; replace HF := Lib.hid hf; replace HC := Lib.hid hc
        clear rg hf hc bn M0 M1 M2 M3
        obtain ⟨WQ, hWQ⟩ : ∃ X, X = WN := ⟨_, rfl⟩
        rw [← hWQ] at RG HF HC ⊢
        clear hWQ
        go_upto_region 6 with (fail)
        obtain ⟨m0, m1, m2, m3⟩ := box4 (by have h := RG.out.r2; unfold fdC at h; exact h)
        have M0 := cell_regrown m0; have M1 := cell_regrown m1; have M2 := cell_regrown m2; have M3 := cell_regrown m3
        clear m0 m1 m2 m3
        refine wp_region_quiet_below (by kernel_rfl) (by kernel_rfl) ?_
        repeat (go_big_quiet_step (first | (go_at_call 61; with_reducible exact Calls.regrown_of (NS.out _)) | (go_at_call 58; with_reducible exact Calls.regrown_of (BF.out _)) | (go_at_call 60; with_reducible exact Calls.regrown_of (BC.out _)) | fail))
        refine wpQuiet_nil ?_; intro _ hw'; obtain ⟨⟨dq, osq⟩, hw''⟩ := hw'; subst hw''
        have bn := below_regrown WQ dq osq
        have rg := RG.out.step bn; have hf := HF.out.deep bn; have hc := HC.out.deep bn
        generalize Sort.grow (redrawn WQ dq) osq = WN at *
        replace RG := Lib.hid rg; replace HF := Lib.hid hf; replace HC := Lib.hid hc
        clear rg hf hc bn M0 M1 M2 M3
        obtain ⟨WQ, hWQ⟩ : ∃ X, X = WN := ⟨_, rfl⟩
        rw [← hWQ] at RG HF HC ⊢
        clear hWQ
        go_upto_region 8 with (fail)
        obtain ⟨m0, m1, m2, m3⟩ := box4 (by have h := RG.out.r2; unfold fdC at h; exact h)
        have M0 := cell_regrown m0; have M1 := cell_regrown m1; have M2 := cell_regrown m2; have M3 := cell_regrown m3
        clear m0 m1 m2 m3
        refine wp_region_quiet_below (by kernel_rfl) (by kernel_rfl) ?_
        repeat (go_big_quiet_step (first | (go_at_call 61; with_reducible exact Calls.regrown_of (NS.out _)) | (go_at_call 58; with_reducible exact Calls.regrown_of (BF.out _)) | (go_at_call 60; with_reducible exact Calls.regrown_of (BC.out _)) | fail))
        refine wpQuiet_nil ?_; intro _ hw'; obtain ⟨⟨dq, osq⟩, hw''⟩ := hw'; subst hw''
        have bn := below_regrown WQ dq osq
        have rg := RG.out.step bn; have hf := HF.out.deep bn; have hc := HC.out.deep bn
        generalize Sort.grow (redrawn WQ dq) osq = WN at *
        replace RG := Lib.hid rg; replace HF := Lib.hid hf; replace HC := Lib.hid hc
        clear rg hf hc bn M0 M1 M2 M3
        obtain ⟨WQ, hWQ⟩ : ∃ X, X = WN := ⟨_, rfl⟩
        rw [← hWQ] at RG HF HC ⊢
        clear hWQ
        have HB := Lib.hid RG.out.b
        clear RG HF HC
        go_wp2_with fail
        go_ret
        exact ⟨by rw [EQ.out]; rfl, HB.out⟩
end Go.Proofs.Ytiglkecmamnphaa
