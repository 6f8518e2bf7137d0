/- Valid, Asks. -/
import Derived.Test.YtiglkecmamnphaaCla
namespace Go.Proofs.Ytiglkecmamnphaa
open Go.RowKit

/-- Four tests, each behind the ones before. -/
theorem fourw {P : Prop} (b1 b2 b3 b4 : Bool) (h1 : b1 = false → P) (h2 : b1 = true → b2 = false → P) (h3 : b1 = true → b2 = true → b3 = false → P) (h4 : b1 = true → b2 = true → b3 = true → b4 = false → P) (h5 : b1 = true → b2 = true → b3 = true → b4 = true → P) : P :=
  five b1 b2 b3 b4 true h1 h2 h3 h4 (fun a b c d => h5 a b c d)
abbrev qnC (q : Qn) : Array Value := #[.int .i64 q.thing, .int .i64 q.says, .int .i64 q.time, .int .i64 q.known]

set_option maxRecDepth 100000 in
set_option maxHeartbeats 4000000 in
theorem asks_any (q : Qn) (w : World) : Calls Try.prog 26 #[.agg (qnC q)] w fun e w' => e = .returned (.bool (asksB q)) ∧ Below w.heap.size w w' := by
  obtain ⟨th, sy, tm, kn⟩ := q
  unfold asksB qnC
  dsimp only
  have v1 := fun W => isThing_any th W
  have v2 := fun W => isSaying_any sy W
  have v3 := fun W => isTime_any tm W
  have v4 := fun W => isTime_any kn W
  generalize thingB th = b1 at *
  generalize sayB sy = b2 at *
  generalize timeB tm = b3 at *
  generalize timeB kn = b4 at *
  obtain ⟨W1, hW1⟩ : ∃ W1, W1 = w.alloc (.cells #[.int .i64 th, .int .i64 sy, .int .i64 tm, .int .i64 kn] 37) := ⟨_, rfl⟩
  have hb1 : Below w.heap.size w W1 := by rw [hW1]; exact below_alloc _ _
  obtain ⟨k0, k1, k2, k3⟩ := box4 (by rw [hW1]; exact Row.made w _ _ : Row W1 w.heap.size 37 _)
  have K0 := cell_regrown k0; have K1 := cell_regrown k1; have K2 := cell_regrown k2; have K3 := cell_regrown k3
  have V1 := Lib.hid v1; have V2 := Lib.hid v2; have V3 := Lib.hid v3; have V4 := Lib.hid v4; have HB := Lib.hid hb1
  clear v1 v2 v3 v4 k0 k1 k2 k3 hb1
  refine fourw b1 b2 b3 b4 (fun h1 => ?_) (fun h1 h2 => ?_) (fun h1 h2 h3 => ?_) (fun h1 h2 h3 h4 => ?_) (fun h1 h2 h3 h4 => ?_)
  · subst h1
    go_enter Try.func26, Try.ntmps26
    go_upto_region 1 with (fail)
    rw [← hW1]
    clear hW1
    refine wp_region_quiet_forced ?_
    repeat (go_big_quiet_step (first | (go_at_call 38; with_reducible exact Calls.regrown_of ((V1.out _).mono fun e W h => ⟨h.1, h.2 ▸ Below.refl _ _⟩)) | (go_at_call 39; with_reducible exact Calls.regrown_of ((V2.out _).mono fun e W h => ⟨h.1, h.2 ▸ Below.refl _ _⟩)) | (go_at_call 37; with_reducible exact Calls.regrown_of ((V3.out _).mono fun e W h => ⟨h.1, h.2 ▸ Below.refl _ _⟩)) | (go_at_call 37; with_reducible exact Calls.regrown_of ((V4.out _).mono fun e W h => ⟨h.1, h.2 ▸ Below.refl _ _⟩)) | fail))
    refine wpQuiet_nil ?_; intro _ hw'; obtain ⟨⟨dq, osq⟩, hw''⟩ := hw'; subst hw''
    go_wp2
    go_ret
    exact ⟨by simp, below_step HB.out (below_regrown _ _ _)⟩
  · subst h1 h2
    go_enter Try.func26, Try.ntmps26
    go_upto_region 1 with (fail)
    rw [← hW1]
    clear hW1
    refine wp_region_quiet_forced ?_
    repeat (go_big_quiet_step (first | (go_at_call 38; with_reducible exact Calls.regrown_of ((V1.out _).mono fun e W h => ⟨h.1, h.2 ▸ Below.refl _ _⟩)) | (go_at_call 39; with_reducible exact Calls.regrown_of ((V2.out _).mono fun e W h => ⟨h.1, h.2 ▸ Below.refl _ _⟩)) | (go_at_call 37; with_reducible exact Calls.regrown_of ((V3.out _).mono fun e W h => ⟨h.1, h.2 ▸ Below.refl _ _⟩)) | (go_at_call 37; with_reducible exact Calls.regrown_of ((V4.out _).mono fun e W h => ⟨h.1, h.2 ▸ Below.refl _ _⟩)) | fail))
    refine wpQuiet_nil ?_; intro _ hw'; obtain ⟨⟨dq, osq⟩, hw''⟩ := hw'; subst hw''
    go_wp2
    go_ret
    exact ⟨by simp, below_step HB.out (below_regrown _ _ _)⟩
  · subst h1 h2 h3
    go_enter Try.func26, Try.ntmps26
    go_upto_region 1 with (fail)
    rw [← hW1]
    clear hW1
    refine wp_region_quiet_forced ?_
    repeat (go_big_quiet_step (first | (go_at_call 38; with_reducible exact Calls.regrown_of ((V1.out _).mono fun e W h => ⟨h.1, h.2 ▸ Below.refl _ _⟩)) | (go_at_call 39; with_reducible exact Calls.regrown_of ((V2.out _).mono fun e W h => ⟨h.1, h.2 ▸ Below.refl _ _⟩)) | (go_at_call 37; with_reducible exact Calls.regrown_of ((V3.out _).mono fun e W h => ⟨h.1, h.2 ▸ Below.refl _ _⟩)) | (go_at_call 37; with_reducible exact Calls.regrown_of ((V4.out _).mono fun e W h => ⟨h.1, h.2 ▸ Below.refl _ _⟩)) | fail))
    refine wpQuiet_nil ?_; intro _ hw'; obtain ⟨⟨dq, osq⟩, hw''⟩ := hw'; subst hw''
    go_wp2
    go_ret
    exact ⟨by simp, below_step HB.out (below_regrown _ _ _)⟩
  · subst h1 h2 h3 h4
    go_enter Try.func26, Try.ntmps26
    go_upto_region 1 with (fail)
    rw [← hW1]
    clear hW1
    refine wp_region_quiet_forced ?_
    repeat (go_big_quiet_step (first | (go_at_call 38; with_reducible exact Calls.regrown_of ((V1.out _).mono fun e W h => ⟨h.1, h.2 ▸ Below.refl _ _⟩)) | (go_at_call 39; with_reducible exact Calls.regrown_of ((V2.out _).mono fun e W h => ⟨h.1, h.2 ▸ Below.refl _ _⟩)) | (go_at_call 37; with_reducible exact Calls.regrown_of ((V3.out _).mono fun e W h => ⟨h.1, h.2 ▸ Below.refl _ _⟩)) | (go_at_call 37; with_reducible exact Calls.regrown_of ((V4.out _).mono fun e W h => ⟨h.1, h.2 ▸ Below.refl _ _⟩)) | fail))
    refine wpQuiet_nil ?_; intro _ hw'; obtain ⟨⟨dq, osq⟩, hw''⟩ := hw'; subst hw''
    go_wp2
    go_ret
    exact ⟨by simp, below_step HB.out (below_regrown _ _ _)⟩
  · subst h1 h2 h3 h4
    go_enter Try.func26, Try.ntmps26
    go_upto_region 1 with (fail)
    rw [← hW1]
    clear hW1
    refine wp_region_quiet_forced ?_
    repeat (go_big_quiet_step (first | (go_at_call 38; with_reducible exact Calls.regrown_of ((V1.out _).mono fun e W h => ⟨h.1, h.2 ▸ Below.refl _ _⟩)) | (go_at_call 39; with_reducible exact Calls.regrown_of ((V2.out _).mono fun e W h => ⟨h.1, h.2 ▸ Below.refl _ _⟩)) | (go_at_call 37; with_reducible exact Calls.regrown_of ((V3.out _).mono fun e W h => ⟨h.1, h.2 ▸ Below.refl _ _⟩)) | (go_at_call 37; with_reducible exact Calls.regrown_of ((V4.out _).mono fun e W h => ⟨h.1, h.2 ▸ Below.refl _ _⟩)) | fail))
    refine wpQuiet_nil ?_; intro _ hw'; obtain ⟨⟨dq, osq⟩, hw''⟩ := hw'; subst hw''
    go_wp2
    go_ret
    exact ⟨by simp, below_step HB.out (below_regrown _ _ _)⟩

/-- What has been tested of a list, one element more. -/
theorem all_next {α : Type} {p : α → Bool} {l : List α} {k : Nat} {x : α} (h : (l.take k).all p = true) (hx : l[k]? = some x) : (l.take (k + 1)).all p = p x := by
  rw [List.take_add_one, hx, List.all_append, h]; simp
theorem all_stop {α : Type} {p : α → Bool} {l : List α} {k : Nat} (h : (l.take k).all p = false) : l.all p = false := by
  rw [← List.take_append_drop k l, List.all_append, h]; rfl
theorem all_end {α : Type} {p : α → Bool} {l : List α} {k : Nat} (h : (l.take k).all p = true) (hk : l.length ≤ k) : l.all p = true := by
  rwa [List.take_of_length_le hk] at h

set_option maxRecDepth 100000 in
set_option maxHeartbeats 16000000 in
theorem valid_any (b : Bk) (cv rv fv : Value) (w : World) (hw : BkV w w.heap.size cv rv fv b) (hst : ∀ c ∈ b.cls, -9223372036854775808 ≤ c.st ∧ c.st ≤ 9223372036854775807) (hsf : ∀ f ∈ b.fct, (-9223372036854775808 ≤ f.st ∧ f.st ≤ 9223372036854775807) ∧ -9223372036854775808 ≤ f.kt ∧ f.kt ≤ 9223372036854775807) :
    Calls Try.prog 25 #[.agg #[cv, rv, fv]] w fun e w' => e = .returned (.bool (validB b)) ∧ Below w.heap.size w w' := by
  have hcv := fun (W : World) (h : Below w.heap.size w W) => (hw.deep h).1
  obtain ⟨CA, cc, rfl, hc9, _⟩ := hw.1
  have hrv := fun (W : World) (h : Below w.heap.size w W) => (hw.deep h).2.1.rpl
  obtain ⟨RA, rc, rfl, hr9, _⟩ := hw.2.1.rpl
  have hfv := fun (W : World) (h : Below w.heap.size w W) => (hw.deep h).2.2.fct
  obtain ⟨FA, fc, rfl, hf9, _⟩ := hw.2.2.fct
  obtain ⟨L1, hL1⟩ : ∃ x, x = b.cls.length := ⟨_, rfl⟩
  obtain ⟨L2, hL2⟩ : ∃ x, x = b.rpl.length := ⟨_, rfl⟩
  obtain ⟨L3, hL3⟩ : ∃ x, x = b.fct.length := ⟨_, rfl⟩
  have hv : validB b = (decide (L1 ≤ 20) && decide (L2 ≤ 10) && decide (L3 ≤ 20) && b.cls.all clsB && b.rpl.all (rplB (L1 : Int)) && b.fct.all fctB) := by rw [hL1, hL2, hL3]; rfl
  have hcg := fun (W : World) (h : Below w.heap.size w W) (i : Nat) (x : Cls) (hx : b.cls[i]? = some x) => (hcv W h).get hx
  have hrg : ∀ (W : World) (h : Below w.heap.size w W) (i : Nat) (x : Rpl) (hx : b.rpl[i]? = some x), ∃ bb o : Nat, RA = some ⟨bb, o, none⟩ ∧ bb < W.heap.size ∧ W.cell? ⟨bb, o + i * 3, none⟩ = some (.int .i64 x.clause) ∧ W.cell? ⟨bb, o + i * 3 + 1, none⟩ = some (.int .i64 x.pub) ∧ W.cell? ⟨bb, o + i * 3 + 2, none⟩ = some (.int .i64 x.frm) := fun W h i x hx => by
    obtain ⟨A, c, e, _, k⟩ := hrv W h
    obtain ⟨rfl, _⟩ : RA = A ∧ rc = c := by simpa using e
    exact k i x hx
  have hfg : ∀ (W : World) (h : Below w.heap.size w W) (i : Nat) (x : Fct) (hx : b.fct[i]? = some x), ∃ bb o : Nat, FA = some ⟨bb, o, none⟩ ∧ bb < W.heap.size ∧ W.cell? ⟨bb, o + i * 6, none⟩ = some (.int .i64 x.thing) ∧ W.cell? ⟨bb, o + i * 6 + 1, none⟩ = some (.int .i64 x.says) ∧ W.cell? ⟨bb, o + i * 6 + 2, none⟩ = some (.int .i64 x.sf) ∧ W.cell? ⟨bb, o + i * 6 + 3, none⟩ = some (.int .i64 x.st) ∧ W.cell? ⟨bb, o + i * 6 + 4, none⟩ = some (.int .i64 x.kf) ∧ W.cell? ⟨bb, o + i * 6 + 5, none⟩ = some (.int .i64 x.kt) := fun W h i x hx => by
    obtain ⟨A, c, e, _, k⟩ := hfv W h
    obtain ⟨rfl, _⟩ : FA = A ∧ fc = c := by simpa using e
    exact k i x hx
  rw [hv, ← hL1, ← hL2, ← hL3]
  rw [← hL1] at hc9
  rw [← hL2] at hr9
  rw [← hL3] at hf9
  have HL1 := Lib.hid hL1; have HL2 := Lib.hid hL2; have HL3 := Lib.hid hL3; have HC := Lib.hid hcg; have HR := Lib.hid hrg; have HF := Lib.hid hfg; have HS := Lib.hid hst; have HSF := Lib.hid hsf
  clear hv hL1 hL2 hL3 hcg hrg hfg hcv hrv hfv hw hst hsf
  by_cases h1 : L1 ≤ 20
  case neg =>
    rw [decide_eq_false h1, Bool.false_and, Bool.false_and, Bool.false_and, Bool.false_and, Bool.false_and]
    go_enter Try.func25, Try.ntmps25
    go_wp2
    go_ret
    exact ⟨rfl, below_alloc _ _⟩
  by_cases h2 : L2 ≤ 10
  case neg =>
    rw [decide_eq_false h2, Bool.and_false, Bool.false_and, Bool.false_and, Bool.false_and, Bool.false_and]
    go_enter Try.func25, Try.ntmps25
    go_wp2
    go_ret
    exact ⟨rfl, below_alloc _ _⟩
  by_cases h3 : L3 ≤ 20
  case neg =>
    rw [decide_eq_false h3, Bool.and_false, Bool.false_and, Bool.false_and, Bool.false_and]
    go_enter Try.func25, Try.ntmps25
    go_wp2
    go_ret
    exact ⟨rfl, below_alloc _ _⟩
  rw [decide_eq_true h1, decide_eq_true h2, decide_eq_true h3, Bool.true_and, Bool.true_and, Bool.true_and]
  clear hc9 hr9 hf9
  go_enter Try.func25, Try.ntmps25
  go_wp2
  go_loopg [4, 28] L1 (fun kx s4 s28 wr => ∃ k : Nat, s28 = .int .i64 (k : Int) ∧ k + kx = L1 ∧ Row wr w.heap.size 34 #[.slice CA L1 cc, .slice RA L2 rc, .slice FA L3 fc] ∧ Below w.heap.size w wr ∧ Hid ((b.cls.take k).all clsB = true))
  case atStart => exact ⟨0, rfl, by omega, Row.made _ _ _, below_alloc _ _, Lib.hid (by simp)⟩
  case round =>
    obtain ⟨k, rfl, hk, hC, hb, I⟩ := hrel
    by_cases hlt : k < L1
    · obtain ⟨x, hv⟩ : ∃ y, b.cls[k]? = some y := at_lt (by rw [← HL1.out]; exact hlt)
      obtain ⟨bb, o, NA, BA, nc, bc, hA, hbb, ⟨n9, hN⟩, ⟨b9, hB⟩, e0, e1, e2, e3, e4, e5⟩ := HC.out wr hb k x hv
      subst hA
      obtain ⟨g0, g1, g2, _, _, _⟩ := hC.three
      have hs := HS.out x (List.mem_of_getElem? hv)
      have hx := fun (W : World) (h : Below wr.heap.size wr W) => isClause_any x NA BA nc bc hs.1 hs.2 n9 b9 W (hN.deep h) (hB.deep h)
      have ht := all_next I.out hv
      unfold clsC at hx
      generalize clsB x = q at *
      generalize x.needs.length = ln at *
      generalize x.bars.length = lb at *
      obtain ⟨xp, xf, xt, _, _, xg⟩ := x
      dsimp only at *
      have HX := Lib.hid hx; have HT := Lib.hid ht; have HB' := Lib.hid hb; have HCC := Lib.hid hC; have HI := I
      clear hx ht hv hb hC hN hB n9 b9 hs I
      cases q
      · go_wp2_with (go_at_call 36; (with_reducible refine (HX.out _ (below_alloc _ _)).mono ?_); rintro e w2 ⟨rfl, b2⟩; have B2 := Lib.hid (below_step (HB'.out.alloc HB'.out.size _) b2); clear b2)
        go_ret
        exact ⟨by rw [all_stop HT.out, Bool.false_and, Bool.false_and]; rfl, B2.out⟩
      · go_wp2_with (go_at_call 36; (with_reducible refine (HX.out _ (below_alloc _ _)).mono ?_); rintro e w2 ⟨rfl, b2⟩; have C2 := Lib.hid ((HCC.out.later _).step b2); have B2 := Lib.hid (below_step (HB'.out.alloc HB'.out.size _) b2); clear b2)
        go_roundg (L1 - (k + 1))
        case measure => omega
        case rel => exact ⟨k + 1, by go_num, by omega, C2.out, B2.out, HT⟩
    · have HI := Lib.hid (all_end I.out (by rw [← HL1.out]; omega))
      clear I HC HS
      obtain ⟨g0, g1, g2, _, _, _⟩ := hC.three
      have HCC := Lib.hid hC; have HB' := Lib.hid hb
      clear hC hb
      go_wp2
      clear hlt hk
      go_loopg [6, 39] L2 (fun kx s6 s39 wx => ∃ k : Nat, s39 = .int .i64 (k : Int) ∧ k + kx = L2 ∧ Row wx w.heap.size 34 #[.slice CA L1 cc, .slice RA L2 rc, .slice FA L3 fc] ∧ Below w.heap.size w wx ∧ Hid ((b.rpl.take k).all (rplB (L1 : Int)) = true))
      case atStart => exact ⟨0, rfl, by omega, HCC.out, HB'.out, Lib.hid (by simp)⟩
      case round =>
        clear g0 g1 g2 HCC HB'
        obtain ⟨j, rfl, hj, hC, hb, I⟩ := hrel
        by_cases hlt : j < L2
        · obtain ⟨⟨rcl, rp, rf⟩, hv⟩ : ∃ y, b.rpl[j]? = some y := at_lt (by rw [← HL2.out]; exact hlt)
          obtain ⟨bb, o, hA, hbb, e0, e1, e2⟩ := HR.out wr hb j _ hv
          subst hA
          have ht := all_next I.out hv
          rw [show rplB (L1 : Int) ⟨rcl, rp, rf⟩ = (decide (0 ≤ rcl) && decide (rcl < (L1 : Int)) && timeB rp && timeB rf) from rfl] at ht
          dsimp only at e0 e1 e2
          have v3 := fun W => isTime_any rp W
          have v4 := fun W => isTime_any rf W
          have y1 : decide (rcl < 0) = !decide (0 ≤ rcl) := by by_cases h : 0 ≤ rcl <;> simp [h] <;> omega
          have y2 : decide (rcl ≥ (L1 : Int)) = !decide (rcl < (L1 : Int)) := by by_cases h : rcl < (L1 : Int) <;> simp [h] <;> omega
          have y3 : decide ((L1 : Int) ≤ rcl) = !decide (rcl < (L1 : Int)) := by by_cases h : rcl < (L1 : Int) <;> simp [h] <;> omega
          generalize timeB rp = b3 at *
          generalize timeB rf = b4 at *
          generalize decide (0 ≤ rcl) = b1 at *
          generalize decide (rcl < (L1 : Int)) = b2 at *
          obtain ⟨W1, hW1⟩ : ∃ W1, W1 = wr.alloc (.cells #[.int .i64 rcl, .int .i64 rp, .int .i64 rf] 55) := ⟨_, rfl⟩
          have hb1 : Below w.heap.size w W1 := by rw [hW1]; exact hb.alloc hb.size _
          have hC1 : Row W1 w.heap.size 34 #[.slice CA L1 cc, .slice (some ⟨bb, o, none⟩) L2 rc, .slice FA L3 fc] := by rw [hW1]; exact hC.later _
          obtain ⟨k0, k1, k2, _, _, _⟩ := hC1.three
          obtain ⟨m0, m1, m2, _, _, _⟩ := (by rw [hW1]; exact Row.made wr _ _ : Row W1 wr.heap.size 55 _).three
          have K0 := cell_regrown k0; have K1 := cell_regrown k1; have K2 := cell_regrown k2; have M0 := cell_regrown m0; have M1 := cell_regrown m1; have M2 := cell_regrown m2
          have HT := Lib.hid ht; have HB1 := Lib.hid hb1; have HC1 := Lib.hid hC1; have V3 := Lib.hid v3; have V4 := Lib.hid v4; have HA := Lib.hid hbb
          clear ht hv hb1 hC1 v3 v4 k0 k1 k2 m0 m1 m2 I
          refine fourw b1 b2 b3 b4 (fun h1 => ?_) (fun h1 h2 => ?_) (fun h1 h2 h3 => ?_) (fun h1 h2 h3 h4 => ?_) (fun h1 h2 h3 h4 => ?_)
          · subst h1
            clear hC hb
            go_upto_region 12 with (fail)
            rw [← hW1]
            clear hW1
            refine wp_region_quiet_forced ?_
            repeat (go_big_quiet_step (first | (go_at_call 37; with_reducible exact Calls.regrown_of ((V3.out _).mono fun e W h => ⟨h.1, h.2 ▸ Below.refl _ _⟩)) | (go_at_call 37; with_reducible exact Calls.regrown_of ((V4.out _).mono fun e W h => ⟨h.1, h.2 ▸ Below.refl _ _⟩)) | fail))
            refine wpQuiet_nil ?_; intro _ hw'; obtain ⟨⟨dq, osq⟩, hw''⟩ := hw'; subst hw''
            go_wp2
            go_ret
            exact ⟨by rw [HI.out, Bool.true_and, all_stop (by simpa using HT.out), Bool.false_and]; rfl, below_step HB1.out (below_regrown _ _ _)⟩
          · subst h1 h2
            clear hC hb
            go_upto_region 12 with (fail)
            rw [← hW1]
            clear hW1
            refine wp_region_quiet_forced ?_
            repeat (go_big_quiet_step (first | (go_at_call 37; with_reducible exact Calls.regrown_of ((V3.out _).mono fun e W h => ⟨h.1, h.2 ▸ Below.refl _ _⟩)) | (go_at_call 37; with_reducible exact Calls.regrown_of ((V4.out _).mono fun e W h => ⟨h.1, h.2 ▸ Below.refl _ _⟩)) | fail))
            refine wpQuiet_nil ?_; intro _ hw'; obtain ⟨⟨dq, osq⟩, hw''⟩ := hw'; subst hw''
            go_wp2
            go_ret
            exact ⟨by rw [HI.out, Bool.true_and, all_stop (by simpa using HT.out), Bool.false_and]; rfl, below_step HB1.out (below_regrown _ _ _)⟩
          · subst h1 h2 h3
            clear hC hb
            go_upto_region 12 with (fail)
            rw [← hW1]
            clear hW1
            refine wp_region_quiet_forced ?_
            repeat (go_big_quiet_step (first | (go_at_call 37; with_reducible exact Calls.regrown_of ((V3.out _).mono fun e W h => ⟨h.1, h.2 ▸ Below.refl _ _⟩)) | (go_at_call 37; with_reducible exact Calls.regrown_of ((V4.out _).mono fun e W h => ⟨h.1, h.2 ▸ Below.refl _ _⟩)) | fail))
            refine wpQuiet_nil ?_; intro _ hw'; obtain ⟨⟨dq, osq⟩, hw''⟩ := hw'; subst hw''
            go_wp2
            go_ret
            exact ⟨by rw [HI.out, Bool.true_and, all_stop (by simpa using HT.out), Bool.false_and]; rfl, below_step HB1.out (below_regrown _ _ _)⟩
          · subst h1 h2 h3 h4
            clear hC hb
            go_upto_region 12 with (fail)
            rw [← hW1]
            clear hW1
            refine wp_region_quiet_forced ?_
            repeat (go_big_quiet_step (first | (go_at_call 37; with_reducible exact Calls.regrown_of ((V3.out _).mono fun e W h => ⟨h.1, h.2 ▸ Below.refl _ _⟩)) | (go_at_call 37; with_reducible exact Calls.regrown_of ((V4.out _).mono fun e W h => ⟨h.1, h.2 ▸ Below.refl _ _⟩)) | fail))
            refine wpQuiet_nil ?_; intro _ hw'; obtain ⟨⟨dq, osq⟩, hw''⟩ := hw'; subst hw''
            go_wp2
            go_ret
            exact ⟨by rw [HI.out, Bool.true_and, all_stop (by simpa using HT.out), Bool.false_and]; rfl, below_step HB1.out (below_regrown _ _ _)⟩
          · subst h1 h2 h3 h4
            clear hC hb
            go_upto_region 12 with (fail)
            rw [← hW1]
            clear hW1
            refine wp_region_quiet_forced ?_
            repeat (go_big_quiet_step (first | (go_at_call 37; with_reducible exact Calls.regrown_of ((V3.out _).mono fun e W h => ⟨h.1, h.2 ▸ Below.refl _ _⟩)) | (go_at_call 37; with_reducible exact Calls.regrown_of ((V4.out _).mono fun e W h => ⟨h.1, h.2 ▸ Below.refl _ _⟩)) | fail))
            refine wpQuiet_nil ?_; intro _ hw'; obtain ⟨⟨dq, osq⟩, hw''⟩ := hw'; subst hw''
            go_wp2
            go_roundg (L2 - (j + 1))
            case measure => omega
            case rel => exact ⟨j + 1, by go_num, by omega, HC1.out.step (below_regrown _ _ _), below_step HB1.out (below_regrown _ _ _), Lib.hid (by simpa using HT.out)⟩
        · have HJ := Lib.hid (all_end I.out (by rw [← HL2.out]; omega))
          clear I HR
          obtain ⟨g0, g1, g2, _, _, _⟩ := hC.three
          have HCC := Lib.hid hC; have HB' := Lib.hid hb
          clear hC hb
          go_wp2
          clear hlt hj
          go_loopg [8, 70] L3 (fun kx s8 s70 wy => ∃ k : Nat, s70 = .int .i64 (k : Int) ∧ k + kx = L3 ∧ Row wy w.heap.size 34 #[.slice CA L1 cc, .slice RA L2 rc, .slice FA L3 fc] ∧ Below w.heap.size w wy ∧ Hid ((b.fct.take k).all fctB = true))
          case atStart => exact ⟨0, rfl, by omega, HCC.out, HB'.out, Lib.hid (by simp)⟩
          case round =>
            clear g0 g1 g2 HCC HB'
            obtain ⟨j, rfl, hj, hC, hb, I⟩ := hrel
            by_cases hlt : j < L3
            · obtain ⟨⟨th, sy, sf, st, kf, kt⟩, hv⟩ : ∃ y, b.fct[j]? = some y := at_lt (by rw [← HL3.out]; exact hlt)
              obtain ⟨bb, o, hA, hbb, e0, e1, e2, e3, e4, e5⟩ := HF.out wr hb j _ hv
              subst hA
              have ht := all_next I.out hv
              rw [show fctB ⟨th, sy, sf, st, kf, kt⟩ = (thingB th && sayB sy && spellB sf st && spellB kf kt) from rfl] at ht
              obtain ⟨⟨z0, z1⟩, z2, z3⟩ := HSF.out _ (List.mem_of_getElem? hv)
              dsimp only at e0 e1 e2 e3 e4 e5 z0 z1 z2 z3
              have v1 := fun W => isThing_any th W
              have v2 := fun W => isSaying_any sy W
              have v3 := fun W => isSpell_any sf st z0 z1 W
              have v4 := fun W => isSpell_any kf kt z2 z3 W
              generalize thingB th = b1 at *
              generalize sayB sy = b2 at *
              generalize spellB sf st = b3 at *
              generalize spellB kf kt = b4 at *
              obtain ⟨W1, hW1⟩ : ∃ W1, W1 = wr.alloc (.cells #[.int .i64 th, .int .i64 sy, .int .i64 sf, .int .i64 st, .int .i64 kf, .int .i64 kt] 57) := ⟨_, rfl⟩
              have hb1 : Below w.heap.size w W1 := by rw [hW1]; exact hb.alloc hb.size _
              have hC1 : Row W1 w.heap.size 34 #[.slice CA L1 cc, .slice RA L2 rc, .slice (some ⟨bb, o, none⟩) L3 fc] := by rw [hW1]; exact hC.later _
              obtain ⟨m0, m1, m2, m3, m4, m5⟩ := box6 (by rw [hW1]; exact Row.made wr _ _ : Row W1 wr.heap.size 57 _)
              have M0 := cell_regrown m0; have M1 := cell_regrown m1; have M2 := cell_regrown m2; have M3 := cell_regrown m3; have M4 := cell_regrown m4; have M5 := cell_regrown m5
              have HT := Lib.hid ht; have HB1 := Lib.hid hb1; have HC1 := Lib.hid hC1; have V1 := Lib.hid v1; have V2 := Lib.hid v2; have V3 := Lib.hid v3; have V4 := Lib.hid v4; have HA := Lib.hid hbb
              clear ht hv hb1 hC1 v1 v2 v3 v4 m0 m1 m2 m3 m4 m5 I z0 z1 z2 z3
              refine fourw b1 b2 b3 b4 (fun h1 => ?_) (fun h1 h2 => ?_) (fun h1 h2 h3 => ?_) (fun h1 h2 h3 h4 => ?_) (fun h1 h2 h3 h4 => ?_)
              · subst h1
                clear hC hb
                go_upto_region 18 with (fail)
                rw [← hW1]
                clear hW1
                refine wp_region_quiet_forced ?_
                repeat (go_big_quiet_step (first | (go_at_call 38; with_reducible exact Calls.regrown_of ((V1.out _).mono fun e W h => ⟨h.1, h.2 ▸ Below.refl _ _⟩)) | (go_at_call 39; with_reducible exact Calls.regrown_of ((V2.out _).mono fun e W h => ⟨h.1, h.2 ▸ Below.refl _ _⟩)) | (go_at_call 40; with_reducible exact Calls.regrown_of (V3.out _)) | (go_at_call 40; with_reducible exact Calls.regrown_of (V4.out _)) | fail))
                refine wpQuiet_nil ?_; intro _ hw'; obtain ⟨⟨dq, osq⟩, hw''⟩ := hw'; subst hw''
                go_wp2
                go_ret
                exact ⟨by rw [HI.out, HJ.out, Bool.true_and, Bool.true_and, all_stop (by simpa using HT.out)]; rfl, below_step HB1.out (below_regrown _ _ _)⟩
              · subst h1 h2
                clear hC hb
                go_upto_region 18 with (fail)
                rw [← hW1]
                clear hW1
                refine wp_region_quiet_forced ?_
                repeat (go_big_quiet_step (first | (go_at_call 38; with_reducible exact Calls.regrown_of ((V1.out _).mono fun e W h => ⟨h.1, h.2 ▸ Below.refl _ _⟩)) | (go_at_call 39; with_reducible exact Calls.regrown_of ((V2.out _).mono fun e W h => ⟨h.1, h.2 ▸ Below.refl _ _⟩)) | (go_at_call 40; with_reducible exact Calls.regrown_of (V3.out _)) | (go_at_call 40; with_reducible exact Calls.regrown_of (V4.out _)) | fail))
                refine wpQuiet_nil ?_; intro _ hw'; obtain ⟨⟨dq, osq⟩, hw''⟩ := hw'; subst hw''
                go_wp2
                go_ret
                exact ⟨by rw [HI.out, HJ.out, Bool.true_and, Bool.true_and, all_stop (by simpa using HT.out)]; rfl, below_step HB1.out (below_regrown _ _ _)⟩
              · subst h1 h2 h3
                clear hC hb
                go_upto_region 18 with (fail)
                rw [← hW1]
                clear hW1
                refine wp_region_quiet_forced ?_
                repeat (go_big_quiet_step (first | (go_at_call 38; with_reducible exact Calls.regrown_of ((V1.out _).mono fun e W h => ⟨h.1, h.2 ▸ Below.refl _ _⟩)) | (go_at_call 39; with_reducible exact Calls.regrown_of ((V2.out _).mono fun e W h => ⟨h.1, h.2 ▸ Below.refl _ _⟩)) | (go_at_call 40; with_reducible exact Calls.regrown_of (V3.out _)) | (go_at_call 40; with_reducible exact Calls.regrown_of (V4.out _)) | fail))
                refine wpQuiet_nil ?_; intro _ hw'; obtain ⟨⟨dq, osq⟩, hw''⟩ := hw'; subst hw''
                go_wp2
                go_ret
                exact ⟨by rw [HI.out, HJ.out, Bool.true_and, Bool.true_and, all_stop (by simpa using HT.out)]; rfl, below_step HB1.out (below_regrown _ _ _)⟩
              · subst h1 h2 h3 h4
                clear hC hb
                go_upto_region 18 with (fail)
                rw [← hW1]
                clear hW1
                refine wp_region_quiet_forced ?_
                repeat (go_big_quiet_step (first | (go_at_call 38; with_reducible exact Calls.regrown_of ((V1.out _).mono fun e W h => ⟨h.1, h.2 ▸ Below.refl _ _⟩)) | (go_at_call 39; with_reducible exact Calls.regrown_of ((V2.out _).mono fun e W h => ⟨h.1, h.2 ▸ Below.refl _ _⟩)) | (go_at_call 40; with_reducible exact Calls.regrown_of (V3.out _)) | (go_at_call 40; with_reducible exact Calls.regrown_of (V4.out _)) | fail))
                refine wpQuiet_nil ?_; intro _ hw'; obtain ⟨⟨dq, osq⟩, hw''⟩ := hw'; subst hw''
                go_wp2
                go_ret
                exact ⟨by rw [HI.out, HJ.out, Bool.true_and, Bool.true_and, all_stop (by simpa using HT.out)]; rfl, below_step HB1.out (below_regrown _ _ _)⟩
              · subst h1 h2 h3 h4
                clear hC hb
                go_upto_region 18 with (fail)
                rw [← hW1]
                clear hW1
                refine wp_region_quiet_forced ?_
                repeat (go_big_quiet_step (first | (go_at_call 38; with_reducible exact Calls.regrown_of ((V1.out _).mono fun e W h => ⟨h.1, h.2 ▸ Below.refl _ _⟩)) | (go_at_call 39; with_reducible exact Calls.regrown_of ((V2.out _).mono fun e W h => ⟨h.1, h.2 ▸ Below.refl _ _⟩)) | (go_at_call 40; with_reducible exact Calls.regrown_of (V3.out _)) | (go_at_call 40; with_reducible exact Calls.regrown_of (V4.out _)) | fail))
                refine wpQuiet_nil ?_; intro _ hw'; obtain ⟨⟨dq, osq⟩, hw''⟩ := hw'; subst hw''
                go_wp2
                go_roundg (L3 - (j + 1))
                case measure => omega
                case rel => exact ⟨j + 1, by go_num, by omega, HC1.out.step (below_regrown _ _ _), below_step HB1.out (below_regrown _ _ _), Lib.hid (by simpa using HT.out)⟩
            · have HK := Lib.hid (all_end I.out (by rw [← HL3.out]; omega))
              have HB' := Lib.hid hb
              clear I hb hC
              go_wp2
              go_ret
              exact ⟨by rw [HI.out, HJ.out, HK.out]; rfl, HB'.out⟩
end Go.Proofs.Ytiglkecmamnphaa
