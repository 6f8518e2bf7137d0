/- Check. -/
import Derived.Test.YtiglkecmamnphaaPv
namespace Go.Proofs.Ytiglkecmamnphaa
open Go.RowKit Go.Sort Go.Lib

def lastH : List Fd → Bool
  | [] => false
  | [f] => f.2.1
  | _ :: l => lastH l
theorem lastH_snoc (l : List Fd) (f : Fd) : lastH (l ++ [f]) = f.2.1 := by
  induction l with
  | nil => rfl
  | cons x l ih =>
    cases l with
    | nil => rfl
    | cons y l => exact ih
def checkB (b : Bk) (q : Qn) (h : Bool) (l : List Fd) : Bool := (validB b && asksB q) && provesB b q l q.says && (lastH l == h)
theorem proves_ne {b : Bk} {q : Qn} {l : List Fd} {n : Int} (hn : 0 ≤ n) (h : provesB b q l n = true) : ∃ k f, l.length = k + 1 ∧ l[k]? = some f ∧ lastH l = f.2.1 ∧ f.1 = n := by
  unfold provesB at h
  rw [Bool.and_eq_true, decide_eq_true_eq] at h
  obtain ⟨_, h2⟩ := h
  rcases List.eq_nil_or_concat l with rfl | ⟨m, f, rfl⟩
  · simp [lastS] at h2; omega
  · rw [List.concat_eq_append] at h2 ⊢
    rw [lastS_snoc] at h2
    exact ⟨m.length, f, by simp, by simp, lastH_snoc m f, h2⟩
theorem says_of {q : Qn} (h : asksB q = true) : 0 ≤ q.says ∧ q.says < 20 := by
  simp only [asksB, sayB, Bool.and_eq_true, decide_eq_true_eq] at h
  exact h.1.1.2
theorem lens_of {b : Bk} (h : validB b = true) : b.cls.length ≤ 20 ∧ b.fct.length ≤ 20 ∧ b.rpl.length ≤ 10 := by
  simp only [validB, Bool.and_eq_true, decide_eq_true_eq] at h
  exact ⟨h.1.1.1.1.1, h.1.1.1.2, h.1.1.1.1.2⟩

set_option maxRecDepth 100000 in
set_option maxHeartbeats 8000000 in
theorem check_any (b : Bk) (q : Qn) (h : Bool) (l : List Fd) (LA : Option Addr) (lc : Nat) (h9 : l.length ≤ Big) (hcap : l.length ≤ lc) (cv rv fv : Value) (w : World) (hw : BkV w w.heap.size cv rv fv b) (hI : BkI b) (hl : FdsC w LA l) :
    Calls Try.prog 13 #[.agg #[cv, rv, fv], .agg (qnC q), .bool h, .slice LA l.length lc] w fun e w' => e = .returned (.bool (checkB b q h l)) ∧ Below w.heap.size w w' := by
  obtain ⟨W1, hW1⟩ : ∃ W1, W1 = (w.alloc (.cells #[cv, rv, fv] 34)).alloc (.cells (qnC q) 37) := ⟨_, rfl⟩
  have hb1 : Below w.heap.size w W1 := by rw [hW1]; exact keep_alloc (below_alloc _ _) _
  have r1 : Row W1 w.heap.size 34 #[cv, rv, fv] := by rw [hW1]; exact (Row.made w _ _).later _
  have r2 : Row W1 (w.heap.size + 1) 37 (qnC q) := by rw [hW1]; exact Row.made_at _ _ _ (by simp)
  cases hva : (validB b && asksB q)
  · have hlk := look_no b q cv rv fv W1 (hw.deep hb1) hI hva
    have hck : checkB b q h l = false := by unfold checkB; rw [hva]; rfl
    rw [hck]
    have HL := Lib.hid hlk; have HB := Lib.hid hb1
    obtain ⟨k0, k1, k2, _, _, _⟩ := r1.three
    unfold qnC at r2 hW1
    obtain ⟨m0, m1, m2, m3⟩ := box4 r2
    unfold qnC at HL
    clear hlk hb1 hck hva hw hl r1 r2 hcap h9
    obtain ⟨K, hK⟩ : ∃ K, K = l.length := ⟨_, rfl⟩
    rw [← hK]
    clear hK
    obtain ⟨th, sy, tm, kn⟩ := q
    dsimp only at *
    go_enter Try.func13, Try.ntmps13
    go_upto_region 1 with (fail)
    rw [← hW1]
    clear hW1
    go_wp2_with (first | (go_at_call 30; (with_reducible refine HL.out.mono ?_); rintro e w2 ⟨rfl, b2⟩) | fail)
    go_ret
    exact ⟨rfl, keep_alloc (below_step HB.out b2) _⟩
  · rw [Bool.and_eq_true] at hva
    obtain ⟨hv, hq⟩ := hva
    have hlk := look_yes b q cv rv fv W1 (hw.deep hb1) hI hv hq
    obtain ⟨l1, l2, _⟩ := lens_of hv
    have hsy := says_of hq
    have hpr := fun (av bv : Value) (W : World) (hb : Below w.heap.size w W) (ha : IntsV W W.heap.size av (aF b q)) (hc : IntsV W W.heap.size bv (aC b q)) => proves_any b q q.says l LA lc h9 hcap cv rv fv av bv W ⟨hw.deep hb, ha, hc⟩ l1 l2 (hl.deep hb)
    have hck : checkB b q h l = (provesB b q l q.says && (lastH l == h)) := by unfold checkB; rw [hv, hq]; rfl
    rw [hck]
    have hne := proves_ne (b := b) (q := q) (l := l) (n := q.says) hsy.1
    generalize provesB b q l q.says = p at *
    obtain ⟨K, hK⟩ : ∃ K, K = l.length := ⟨_, rfl⟩
    rw [← hK] at h9 hcap hpr hne ⊢
    replace h9 : K ≤ 9223372036854775807 := h9
    have HP := Lib.hid hpr; have HL := Lib.hid hlk; have HB := Lib.hid hb1; have HN := Lib.hid hne; have HLL := Lib.hid hl
    obtain ⟨k0, k1, k2, _, _, _⟩ := r1.three
    obtain ⟨CA, cl, cc, rfl⟩ : ∃ A n c, cv = .slice A n c := by obtain ⟨A, c, h, _⟩ := hw.1; exact ⟨_, _, _, h⟩
    obtain ⟨RA, rl, rc, rfl⟩ : ∃ A n c, rv = .slice A n c := by obtain ⟨A, c, h, _⟩ := hw.2.1; exact ⟨_, _, _, h⟩
    obtain ⟨FA, fl, fc, rfl⟩ : ∃ A n c, fv = .slice A n c := by obtain ⟨A, c, h, _⟩ := hw.2.2; exact ⟨_, _, _, h⟩
    have R2 := Lib.hid r2
    unfold qnC at r2 hW1 HL
    obtain ⟨m0, m1, m2, m3⟩ := box4 r2
    clear hlk hb1 hck hpr hne hw hl r1 r2 hK hv hq hsy l1 l2 hI
    obtain ⟨th, sy, tm, kn⟩ := q
    dsimp only at *
    go_enter Try.func13, Try.ntmps13
    go_upto_region 1 with (fail)
    rw [← hW1]
    clear hW1
    go_upto_region 2 with (first | (go_at_call 30; (with_reducible refine HL.out.mono ?_); rintro e w2 ⟨av, bv, rfl, ha, hc, b2⟩; obtain ⟨aA, ac, rfl, _⟩ := id ha; obtain ⟨bA, bc, rfl, _⟩ := id hc; have A2 := Lib.hid ha; have C2 := Lib.hid hc; have B2 := Lib.hid b2; clear ha hc b2) | fail)
    generalize (aF b ⟨th, sy, tm, kn⟩).length = la at *
    generalize (aC b ⟨th, sy, tm, kn⟩).length = lb at *
    obtain ⟨W3, hW3⟩ : ∃ W3, W3 = w2.alloc (.cells #[.slice CA cl cc, .slice RA rl rc, .slice FA fl fc, .slice aA la ac, .slice bA lb bc] 79) := ⟨_, rfl⟩
    have b3 : Below w2.heap.size w2 W3 := by rw [hW3]; exact below_alloc _ _
    obtain ⟨n0, n1, n2, n3, n4⟩ := box5 (by rw [hW3]; exact Row.made w2 _ _ : Row W3 w2.heap.size 79 _)
    have r2 := (R2.out.step B2.out).step b3
    unfold qnC at r2
    obtain ⟨_, p1, _, _⟩ := box4 r2
    have BW := Lib.hid (below_step (below_step HB.out B2.out) b3)
    have PW := Lib.hid (HP.out _ _ W3 BW.out (A2.out.deep b3) (C2.out.deep b3))
    have LW := Lib.hid (HLL.out.deep BW.out)
    rw [← hW3]
    clear hW3 b3 r2 HP HL A2 C2 B2 HB R2 HLL k0 k1 k2 m0 m1 m2 m3
    cases p
    · go_wp2_with (first | (go_at_call 33; (with_reducible refine PW.out.mono ?_); rintro e w4 ⟨rfl, b4⟩) | fail)
      go_ret
      exact ⟨rfl, below_step BW.out b4⟩
    · obtain ⟨k, f, hk, hf, hlh, _⟩ := HN.out rfl
      subst hk
      obtain ⟨bb, o, hA, hbb, q0, q1, q2, q3⟩ := LW.out k f hf
      subst hA
      generalize f.2.1 = fh at *
      have hkk : ((k + 1 : Nat) : Int) - 1 = (k : Int) := by omega
      have Q1 := Lib.hid q1; have HLH := Lib.hid hlh
      clear q0 q1 q2 q3 hf hlh HN LW
      go_wp2_with (first | (go_at_call 33; (with_reducible refine PW.out.mono ?_); rintro e w4 ⟨rfl, b4⟩; have q1 := (b4.cell (p := ⟨bb, o + k * 4 + 1, none⟩) hbb).trans Q1.out; have B4 := Lib.hid (below_step BW.out b4); clear b4) | fail)
      go_ret
      exact ⟨by rw [HLH.out]; rfl, B4.out⟩
end Go.Proofs.Ytiglkecmamnphaa
