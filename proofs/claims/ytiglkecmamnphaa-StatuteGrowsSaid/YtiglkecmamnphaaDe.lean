/- Decide. -/
import Derived.Test.YtiglkecmamnphaaNd
namespace Go.Proofs.Ytiglkecmamnphaa
open Go.RowKit Go.Sort Go.Lib Go.Maps

theorem asc_len : ∀ {l : List Fd} {d : Int}, Asc d l → d + l.length ≤ lastS d l
  | [], d, _ => by simp [lastS]
  | f :: l, d, h => by
    have := asc_len h.2
    have := h.1
    simp only [List.length_cons, lastS]
    omega
theorem proves_len {b : Bk} {q : Qn} (hlow : LowB b) {n : Int} {l : List Fd} (h1 : n < 20) (h : provesB b q l n = true) : l.length ≤ 20 := by
  obtain ⟨⟨h2, _⟩, h3⟩ := (provesB_iff hlow).1 h
  have := asc_len h2
  omega
theorem slim_ends {b : Bk} {q : Qn} (hlow : LowB b) {n : Int} {l : List Fd} (h0 : 0 ≤ n) (h1 : n < 20) (h : Slim b q n l) : ∃ k f, l.length = k + 1 ∧ l[k]? = some f ∧ f.2.1 = soB b q n ∧ l.length ≤ 20 := by
  obtain ⟨k, f, e1, e2, _, e4⟩ := proves_ne h0 h.1
  refine ⟨k, f, e1, e2, ?_, proves_len hlow h1 h.1⟩
  rw [proves_so hlow h1 h.1 f (List.mem_of_getElem? e2), e4]
abbrev decR (a : Bool) (A : Option Addr) (n c : Nat) (e : Int) : Value := .tuple #[.bool a, .slice A n c, .int .i64 e]

set_option maxRecDepth 100000 in
set_option maxHeartbeats 8000000 in
theorem decide_no (b : Bk) (q : Qn) (cv rv fv : Value) (w : World) (hw : BkV w w.heap.size cv rv fv b) (hI : BkI b) (hno : (validB b && asksB q) = false) :
    Calls Try.prog 12 #[.agg #[cv, rv, fv], .agg (qnC q)] w fun e w' => e = .returned (decR false none 0 0 80) ∧ Below w.heap.size w w' := by
  obtain ⟨W1, hW1⟩ : ∃ W1, W1 = (w.alloc (.cells #[cv, rv, fv] 34)).alloc (.cells (qnC q) 37) := ⟨_, rfl⟩
  have hb1 : Below w.heap.size w W1 := by rw [hW1]; exact keep_alloc (below_alloc _ _) _
  have r1 : Row W1 w.heap.size 34 #[cv, rv, fv] := by rw [hW1]; exact (Row.made w _ _).later _
  have r2 : Row W1 (w.heap.size + 1) 37 (qnC q) := by rw [hW1]; exact Row.made_at _ _ _ (by simp)
  have hlk := look_no b q cv rv fv W1 (hw.deep hb1) hI hno
  have HL := Lib.hid hlk; have HB := Lib.hid hb1
  obtain ⟨k0, k1, k2, _, _, _⟩ := r1.three
  unfold qnC at r2 hW1 HL
  obtain ⟨m0, m1, m2, m3⟩ := box4 r2
  clear hlk hb1 hno hw r1 r2 hI
  obtain ⟨th, sy, tm, kn⟩ := q
  dsimp only at *
  go_enter Try.func12, Try.ntmps12
  go_upto_region 1 with (fail)
  rw [← hW1]
  clear hW1
  go_wp2_with (first | (go_at_call 30; (with_reducible refine HL.out.mono ?_); rintro e w2 ⟨rfl, b2⟩) | fail)
  go_ret3
  exact ⟨rfl, keep_alloc (below_step HB.out b2) _⟩

set_option maxRecDepth 100000 in
set_option maxHeartbeats 8000000 in
theorem decide_yes (b : Bk) (q : Qn) (cv rv fv : Value) (w : World) (hw : BkV w w.heap.size cv rv fv b) (hI : BkI b) (hv : validB b = true) (hq : asksB q = true) :
    Calls Try.prog 12 #[.agg #[cv, rv, fv], .agg (qnC q)] w fun e w' => ∃ (A : Option Addr) (c : Nat) (l : List Fd), e = .returned (decR (soB b q q.says) A l.length c 0) ∧ Slim b q q.says l ∧ w'.ownsRow w.heap.size 63 4 (.slice A l.length c) l.length (flatF l) ∧ Below w.heap.size w w' := by
  obtain ⟨W1, hW1⟩ : ∃ W1, W1 = (w.alloc (.cells #[cv, rv, fv] 34)).alloc (.cells (qnC q) 37) := ⟨_, rfl⟩
  have hb1 : Below w.heap.size w W1 := by rw [hW1]; exact keep_alloc (below_alloc _ _) _
  have r1 : Row W1 w.heap.size 34 #[cv, rv, fv] := by rw [hW1]; exact (Row.made w _ _).later _
  have r2 : Row W1 (w.heap.size + 1) 37 (qnC q) := by rw [hW1]; exact Row.made_at _ _ _ (by simp)
  have hlk := look_yes b q cv rv fv W1 (hw.deep hb1) hI hv hq
  obtain ⟨l1, l2, _⟩ := lens_of hv
  have hsy := says_of hq
  have hlow := low_of hv
  have hfi := fun (av bv : Value) (W : World) (hb : Below w.heap.size w W) (ha : IntsV W W.heap.size av (aF b q)) (hc : IntsV W W.heap.size bv (aC b q)) => findings_any b q hlow l1 l2 cv rv fv av bv q.says hsy.1 hsy.2 W ⟨hw.deep hb, ha, hc⟩
  have hne := fun (av bv : Value) (l : List Fd) (A : Option Addr) (c base : Nat) (W : World) (hb : Below w.heap.size w W) (ha : IntsV W W.heap.size av (aF b q)) (hc : IntsV W W.heap.size bv (aC b q)) (hbs : base ≤ W.heap.size) (ho : W.ownsRow base 63 4 (.slice A l.length c) l.length (flatF l)) (hp : provesB b q l q.says = true) =>
    needed_any b q hlow l1 l2 q.says l A c base cv rv fv av bv W ⟨hw.deep hb, ha, hc⟩ hbs ho hp (by obtain ⟨k, f, e, _⟩ := proves_ne hsy.1 hp; omega) (proves_len hlow hsy.2 hp)
  have hen := fun (l : List Fd) (h : Slim b q q.says l) => slim_ends hlow hsy.1 hsy.2 h
  have HF := Lib.hid hfi; have HN := Lib.hid hne; have HL := Lib.hid hlk; have HB := Lib.hid hb1; have HE := Lib.hid hen
  obtain ⟨k0, k1, k2, _, _, _⟩ := r1.three
  obtain ⟨CA, cl, cc, rfl⟩ : ∃ A n c, cv = .slice A n c := by obtain ⟨A, c, h, _⟩ := hw.1; exact ⟨_, _, _, h⟩
  obtain ⟨RA, rl, rc, rfl⟩ : ∃ A n c, rv = .slice A n c := by obtain ⟨A, c, h, _⟩ := hw.2.1; exact ⟨_, _, _, h⟩
  obtain ⟨FA, fl, fc, rfl⟩ : ∃ A n c, fv = .slice A n c := by obtain ⟨A, c, h, _⟩ := hw.2.2; exact ⟨_, _, _, h⟩
  have R2 := Lib.hid r2
  unfold qnC at r2 hW1 HL
  obtain ⟨m0, m1, m2, m3⟩ := box4 r2
  clear hlk hb1 hfi hne hen hw r1 r2 hv hq hsy l1 l2 hI hlow
  obtain ⟨th, sy, tm, kn⟩ := q
  dsimp only at *
  go_enter Try.func12, Try.ntmps12
  go_upto_region 1 with (fail)
  rw [← hW1]
  clear hW1
  go_upto_region 4 with (first | (go_at_call 30; (with_reducible refine HL.out.mono ?_); rintro e w2 ⟨av, bv, rfl, ha, hc, b2⟩; obtain ⟨aA, ac, rfl, _⟩ := id ha; obtain ⟨bA, bc, rfl, _⟩ := id hc; have A2 := Lib.hid ha; have C2 := Lib.hid hc; have B2 := Lib.hid b2; clear ha hc b2) | fail)
  generalize hla : (aF b ⟨th, sy, tm, kn⟩).length = la at *
  generalize hlb : (aC b ⟨th, sy, tm, kn⟩).length = lb at *
  obtain ⟨W3, hW3⟩ : ∃ W3, W3 = w2.alloc (.cells #[.slice CA cl cc, .slice RA rl rc, .slice FA fl fc, .slice aA la ac, .slice bA lb bc] 79) := ⟨_, rfl⟩
  have b3 : Below w2.heap.size w2 W3 := by rw [hW3]; exact below_alloc _ _
  have r3 : Row W3 w2.heap.size 79 #[.slice CA cl cc, .slice RA rl rc, .slice FA fl fc, .slice aA la ac, .slice bA lb bc] := by rw [hW3]; exact Row.made w2 _ _
  have r2 := (R2.out.step B2.out).step b3
  have BW := Lib.hid (below_step (below_step HB.out B2.out) b3)
  have A3 := Lib.hid (A2.out.deep b3); have C3 := Lib.hid (C2.out.deep b3); have R3 := Lib.hid r3; have Q3 := Lib.hid r2
  rw [← hW3]
  clear hW3 b3 r2 r3 A2 C2 B2 HB R2 HL k0 k1 k2 m0 m1 m2 m3 hla hlb
  go_cut [9] (fun s9 W => ∃ (A : Option Addr) (c : Nat) (l : List Fd), s9 = .slice A l.length c ∧ Slim b ⟨th, sy, tm, kn⟩ sy l ∧ W.ownsRow w.heap.size 63 4 (.slice A l.length c) l.length (flatF l) ∧ Below W3.heap.size W3 W)
  case first =>
    have kp : ∀ W, Below W3.heap.size W3 W → (Below W3.heap.size W3 W ∧ W.cell? ⟨w2.heap.size, 0, none⟩ = some (.slice CA cl cc) ∧ W.cell? ⟨w2.heap.size, 1, none⟩ = some (.slice RA rl rc) ∧ W.cell? ⟨w2.heap.size, 2, none⟩ = some (.slice FA fl fc) ∧ W.cell? ⟨w2.heap.size, 3, none⟩ = some (.slice aA la ac) ∧ W.cell? ⟨w2.heap.size, 4, none⟩ = some (.slice bA lb bc) ∧ W.cell? ⟨w.heap.size + 1, 1, none⟩ = some (.int .i64 sy)) := fun W b => by
      have h := R3.out.step b
      exact ⟨b, h.at rfl, h.at rfl, h.at rfl, h.at rfl, h.at rfl, (Q3.out.step b).at rfl⟩
    have KP := Lib.hid kp
    clear kp
    first
      | (go_region_held3 (fun W => (Below W3.heap.size W3 W ∧ W.cell? ⟨w2.heap.size, 0, none⟩ = some (.slice CA cl cc) ∧ W.cell? ⟨w2.heap.size, 1, none⟩ = some (.slice RA rl rc) ∧ W.cell? ⟨w2.heap.size, 2, none⟩ = some (.slice FA fl fc) ∧ W.cell? ⟨w2.heap.size, 3, none⟩ = some (.slice aA la ac) ∧ W.cell? ⟨w2.heap.size, 4, none⟩ = some (.slice bA lb bc) ∧ W.cell? ⟨w.heap.size + 1, 1, none⟩ = some (.int .i64 sy)))
          (first | assumption | exact KP.out _ ((Below.refl _ _).drew) | exact KP.out _ (below_step (And.left (by assumption)) (by assumption)) | fail)
          (first
            | (go_at_call 32; (with_reducible refine (HF.out _ _ _ (below_step BW.out (And.left (by assumption))) (A3.out.deep (And.left (by assumption))) (C3.out.deep (And.left (by assumption)))).mono ?_); rintro e w5 ⟨FA5, c5, l5, rfl, p5, o5, b5⟩; have P5 := Lib.hid p5; have O5 := Lib.hid (own_less o5 (Nat.le_trans BW.out.size (Below.size (And.left (by assumption))))); have Z5 := Lib.hid (Nat.le_trans (Nat.le_trans BW.out.size (Below.size (And.left (by assumption)))) b5.size); clear p5 o5)
            | (go_at_call 31; (with_reducible refine (HN.out _ _ _ _ _ _ _ (below_step BW.out (And.left (by assumption))) (A3.out.deep (And.left (by assumption))) (C3.out.deep (And.left (by assumption))) Z5.out O5.out P5.out).mono ?_); rintro e w6 ⟨FA6, c6, l6, rfl, p6, o6, b6⟩; have P6 := Lib.hid p6; have O6 := Lib.hid o6; clear p6 o6)
            | fail))
      | fail
    all_goals go_wp2_with fail
    all_goals go_meet
    all_goals (case rel => exact ⟨_, _, l6, rfl, P6.out, O6.out, And.left (by assumption)⟩)
  case rest =>
  obtain ⟨A, c, l, rfl, hs, ho, hb⟩ := hcut
  obtain ⟨k, f, hk, hf, hso, hl20⟩ := HE.out l hs
  obtain ⟨bb, o, hA, hbb, q0, q1, q2, q3⟩ := own_fds rfl ho k f hf
  subst hA
  have HS := Lib.hid hs; have HO := Lib.hid ho; have HBB := Lib.hid (BW.out.trans (hb.mono BW.out.size)); have HSO := Lib.hid hso; have HKL := Lib.hid hk
  rw [hk]
  have hkk : ((k + 1 : Nat) : Int) - 1 = (k : Int) := by omega
  have hcap := own_cap ho
  rw [hk] at hcap hl20
  generalize hfh : f.2.1 = fh at *
  have hwk : wrap64 (k : Int) = k := Go.IntWalk.wrap64_in _ ⟨by omega, by omega⟩
  clear hs ho hb hso hk hf HE q0 q2 q3 HF HN A3 C3 R3 Q3 BW
  go_wp2_with fail
  go_ret3
  exact ⟨some ⟨bb, o, none⟩, c, l, by first | (rw [HSO.out, HKL.out]; rfl) | (rw [HKL.out]; rfl), HS.out, HO.out, HBB.out⟩
end Go.Proofs.Ytiglkecmamnphaa
