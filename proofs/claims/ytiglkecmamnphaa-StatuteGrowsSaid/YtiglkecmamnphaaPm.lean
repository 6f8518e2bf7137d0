/- Past: what is put behind the rules, so that it changes nothing. -/
import Derived.Test.YtiglkecmamnphaaVm
import Derived.Test.YtiglkecmamnphaaOx
namespace Go.Proofs.Ytiglkecmamnphaa
open Go.RowKit Go.Sort Go.Lib

def lateC (tm kn h2 x : Int) (y : Cls) : Cls := if h2 = 0 then { y with pub := kn + 1 + x } else if hasB y.sf y.st tm = true then { y with sf := tm + 1, st := tm + 2 + x } else y
def lateR (tm kn h2 x k : Int) (y : Rpl) : Rpl := if h2 = 0 then ⟨k, kn + 1 + x, y.frm⟩ else ⟨k, y.pub, tm + 1 + x⟩
def lateF (tm kn h3 x : Int) (y : Fct) : Fct := if h3 = 0 then { y with thing := 3 } else if h3 = 1 then { y with kf := kn + 1, kt := kn + 2 + x } else { y with sf := tm + 1, st := tm + 2 + x }
section
variable {tm kn h x : Int}
theorem lateC_no (hx : 0 ≤ x) (y : Cls) : (decide ((lateC tm kn h x y).pub ≤ kn) && hasB (lateC tm kn h x y).sf (lateC tm kn h x y).st tm) = false := by
  unfold lateC
  by_cases h0 : h = 0
  · rw [if_pos h0]
    dsimp only
    rw [decide_eq_false (by omega), Bool.false_and]
  · rw [if_neg h0]
    by_cases h1 : hasB y.sf y.st tm = true
    · rw [if_pos h1]
      dsimp only
      unfold hasB
      rw [decide_eq_false (show ¬ tm + 1 ≤ tm by omega), Bool.false_and, Bool.and_false]
    · rw [if_neg h1]
      rw [Bool.eq_false_iff.2 h1, Bool.and_false]
theorem lateC_ok (hx : 0 ≤ x ∧ x < 50) (ht : 0 ≤ tm ∧ tm < 100) (hk : 0 ≤ kn ∧ kn < 100) {y : Cls} (hy : clsB y = true) : clsB (lateC tm kn h x y) = true ∧ (lateC tm kn h x y).needs = y.needs ∧ (lateC tm kn h x y).bars = y.bars ∧ (lateC tm kn h x y).gives = y.gives := by
  unfold lateC
  split
  · refine ⟨?_, rfl, rfl, rfl⟩
    unfold clsB timeB at hy ⊢
    simp only [Bool.and_eq_true, decide_eq_true_eq] at hy ⊢
    exact ⟨⟨⟨⟨⟨by omega, by omega⟩, hy.1.1.1.2⟩, hy.1.1.2⟩, hy.1.2⟩, hy.2⟩
  · split
    · refine ⟨?_, rfl, rfl, rfl⟩
      unfold clsB spellB at hy ⊢
      simp only [Bool.and_eq_true, decide_eq_true_eq] at hy ⊢
      exact ⟨⟨⟨⟨hy.1.1.1.1, ⟨by omega, by omega⟩, by omega⟩, hy.1.1.2⟩, hy.1.2⟩, hy.2⟩
    · exact ⟨hy, rfl, rfl, rfl⟩
theorem lateR_no (hx : 0 ≤ x) (k : Int) (y : Rpl) : (decide ((lateR tm kn h x k y).pub ≤ kn) && decide ((lateR tm kn h x k y).frm ≤ tm)) = false := by
  unfold lateR
  split
  · dsimp only
    rw [decide_eq_false (by omega), Bool.false_and]
  · dsimp only
    rw [decide_eq_false (show ¬ tm + 1 + x ≤ tm by omega), Bool.and_false]
theorem lateR_ok (hx : 0 ≤ x ∧ x < 50) (ht : 0 ≤ tm ∧ tm < 100) (hk : 0 ≤ kn ∧ kn < 100) {k n m : Int} (h0 : 0 ≤ k) (h1 : k < n) {y : Rpl} (hy : rplB m y = true) : rplB n (lateR tm kn h x k y) = true := by
  unfold rplB timeB at hy
  simp only [Bool.and_eq_true, decide_eq_true_eq] at hy
  unfold lateR
  split
  · unfold rplB timeB
    simp only [Bool.and_eq_true, decide_eq_true_eq]
    exact ⟨⟨⟨h0, h1⟩, by omega, by omega⟩, hy.2⟩
  · unfold rplB timeB
    simp only [Bool.and_eq_true, decide_eq_true_eq]
    exact ⟨⟨⟨h0, h1⟩, hy.1.2⟩, by omega, by omega⟩
theorem lateF_no (hx : 0 ≤ x) {th sy : Int} (hth : th < 3) (y : Fct) : fctA ⟨th, sy, tm, kn⟩ (lateF tm kn h x y) = false := by
  unfold lateF fctA hasB
  split
  · dsimp only
    rw [decide_eq_false (show ¬ (3 : Int) = th by omega), Bool.false_and, Bool.false_and]
  · split
    · dsimp only
      rw [decide_eq_false (show ¬ kn + 1 ≤ kn by omega), Bool.false_and, Bool.and_false]
    · dsimp only
      rw [decide_eq_false (show ¬ tm + 1 ≤ tm by omega), Bool.false_and, Bool.and_false, Bool.false_and]
theorem lateF_ok (hx : 0 ≤ x ∧ x < 50) (ht : 0 ≤ tm ∧ tm < 100) (hk : 0 ≤ kn ∧ kn < 100) {y : Fct} (hy : fctB y = true) : fctB (lateF tm kn h x y) = true := by
  unfold fctB thingB spellB at hy
  simp only [Bool.and_eq_true, decide_eq_true_eq] at hy
  unfold lateF
  split
  · unfold fctB thingB spellB
    simp only [Bool.and_eq_true, decide_eq_true_eq]
    exact ⟨⟨⟨⟨by omega, by omega⟩, hy.1.1.2⟩, hy.1.2⟩, hy.2⟩
  · split
    · unfold fctB thingB spellB
      simp only [Bool.and_eq_true, decide_eq_true_eq]
      exact ⟨⟨⟨hy.1.1.1, hy.1.1.2⟩, hy.1.2⟩, ⟨by omega, by omega⟩, by omega⟩
    · unfold fctB thingB spellB
      simp only [Bool.and_eq_true, decide_eq_true_eq]
      exact ⟨⟨⟨hy.1.1.1, hy.1.1.2⟩, ⟨by omega, by omega⟩, by omega⟩, hy.2⟩
end
/-- Rules, and what late things were put behind them. -/
def pastB (b e : Bk) (tm kn h2 h3 x k : Int) : Bk := ⟨b.cls ++ e.cls.map (lateC tm kn h2 x), b.rpl ++ (if b.cls = [] then [] else e.rpl.map (lateR tm kn h2 x k)), b.fct ++ e.fct.map (lateF tm kn h3 x)⟩
theorem past_same {b e : Bk} {th sy tm kn h2 h3 x k : Int} (hx : 0 ≤ x) (hth : th < 3) : SameA b (pastB b e tm kn h2 h3 x k) ⟨th, sy, tm, kn⟩ := by
  refine same_app rfl rfl rfl (fun c hc => ?_) (fun r hr => ?_) (fun f hf => ?_)
  · obtain ⟨y, _, rfl⟩ := List.mem_map.1 hc
    exact lateC_no hx y
  · split at hr
    · cases hr
    · obtain ⟨y, _, rfl⟩ := List.mem_map.1 hr
      exact lateR_no hx k y
  · obtain ⟨y, _, rfl⟩ := List.mem_map.1 hf
    exact lateF_no hx hth y
theorem past_valid {b e : Bk} {tm kn h2 h3 x k : Int} (hb : validB b = true) (he : validB e = true) (lb : b.cls.length ≤ 8 ∧ b.rpl.length ≤ 3 ∧ b.fct.length ≤ 8) (le : e.cls.length ≤ 8 ∧ e.rpl.length ≤ 3 ∧ e.fct.length ≤ 8)
    (hx : 0 ≤ x ∧ x < 50) (ht : 0 ≤ tm ∧ tm < 100) (hk : 0 ≤ kn ∧ kn < 100) (hkk : b.cls ≠ [] → 0 ≤ k ∧ k < (b.cls.length : Int)) : validB (pastB b e tm kn h2 h3 x k) = true := by
  have hv := he
  simp only [validB, Bool.and_eq_true, decide_eq_true_eq, List.all_eq_true] at hv
  refine valid_app hb (by rw [List.length_map]; omega) ?_ (by rw [List.length_map]; omega) (fun c hc => ?_) (fun r hr => ?_) (fun f hf => ?_)
  · split
    · simp; omega
    · rw [List.length_map]; omega
  · obtain ⟨y, hy, rfl⟩ := List.mem_map.1 hc
    exact (lateC_ok hx ht hk (hv.1.1.2 y hy)).1
  · split at hr
    · cases hr
    · rename_i hne
      obtain ⟨y, hy, rfl⟩ := List.mem_map.1 hr
      obtain ⟨k0, k1⟩ := hkk hne
      exact lateR_ok hx ht hk k0 (by omega) (hv.1.2 y hy)
  · obtain ⟨y, hy, rfl⟩ := List.mem_map.1 hf
    exact lateF_ok hx ht hk (hv.2 y hy)
theorem cell_of {B : Nat} {w W : World} {p : Addr} {v : Value} (h : Below B w W) (hc : w.cell? p = some v) (hB : p.block < B) : W.cell? p = some v := (h.cell hB).trans hc
/-- Made, with its rows as the maker's own. -/
theorem made_ow (C : List Six) (CA : Option Addr) (cc : Nat) (R : List Tri) (RA : Option Addr) (rc : Nat) (F : List Six) (FA : Option Addr) (fc : Nat) (hC : ∀ y ∈ C, In6 y) (hR : ∀ y ∈ R, In3 y) (hF : ∀ y ∈ F, In6 y) (lC : C.length ≤ 9223372036854775807) (lR : R.length ≤ 9223372036854775807) (lF : F.length ≤ 9223372036854775807) (w : World)
    (wC : Cells w w.heap.size CA 6 (C.map fun y => (sixL y).toArray)) (wR : Cells w w.heap.size RA 3 (R.map fun y => (triL y).toArray)) (wF : Cells w w.heap.size FA 6 (F.map fun y => (sixL y).toArray)) (W : World) (hb : Below w.heap.size w W) :
    Calls Try.prog 10 #[bkA CA C.length cc RA R.length rc FA F.length fc] W fun e w' => ∃ A c A2 c2 A3 c3 cs, e = .returned (bkA A (madeB C R F).cls.length c A2 (madeB C R F).rpl.length c2 A3 (madeB C R F).fct.length c3) ∧ OwnB w' W.heap.size (.slice A (madeB C R F).cls.length c) (.slice A2 (madeB C R F).rpl.length c2) (.slice A3 (madeB C R F).fct.length c3) cs (madeB C R F).rpl (madeB C R F).fct ∧ cs.map (·.1) = (madeB C R F).cls ∧ Below W.heap.size W w' :=
  (made_any C CA cc R RA rc F FA fc hC hR hF lC lR lF W ((wC.below hb).more hb.size) ((wR.below hb).more hb.size) ((wF.below hb).more hb.size)).mono fun e w' ⟨cv, rv, fv, cs, he, ho, hc, hbb⟩ => by
    have hcl : cs.length = (madeB C R F).cls.length := by rw [← hc, List.length_map]
    obtain ⟨A, c, rfl⟩ := own_len ho.c
    obtain ⟨A2, c2, rfl⟩ := own_len ho.r
    obtain ⟨A3, c3, rfl⟩ := own_len ho.f
    rw [hcl] at he ho
    exact ⟨A, c, A2, c2, A3, c3, cs, he, ho, hc, hbb⟩
/-- The cells of an element of a row of one's own. -/
theorem own_elem {α : Type} {enc : α → List Value} {k : Nat} (hk : ∀ x, (enc x).length = k) {W : World} {B n c : Nat} {e : TypeId} {A : Option Addr} {l : List α} (h : W.ownsRow B e k (.slice A n c) l.length (flG enc l)) {i : Nat} {x : α} (hx : l[i]? = some x) :
    ∃ g, A = some ⟨g, 0, none⟩ ∧ g < W.heap.size ∧ ∀ j u, (enc x)[j]? = some u → W.cell? ⟨g, i * k + j, none⟩ = some u := by
  have hi := (List.getElem?_eq_some_iff.1 hx).1
  rcases h.2 with ⟨_, h0⟩ | ⟨g, cap, cur, hv, hB, hg, _⟩
  · omega
  · cases hv
    refine ⟨g, rfl, ?_, fun j u hj => ?_⟩
    · rcases Nat.lt_or_ge g W.heap.size with q | q
      · exact q
      · rw [Array.getElem?_eq_none q] at hg; cases hg
    · have hj' : j < k := by rw [← hk x]; exact (List.getElem?_eq_some_iff.1 hj).1
      have hlt : i * k + j < l.length * k := by
        have : (i + 1) * k ≤ l.length * k := Nat.mul_le_mul_right k (by omega)
        rw [Nat.add_mul, Nat.one_mul] at this
        omega
      rw [h.cellAt (i * k + j) hlt, flG_at hk l i j x hx hj', hj]
set_option maxRecDepth 100000 in
set_option maxHeartbeats 4000000 in
theorem hasref_any (f t x : Int) (w : World) : Calls Try.prog 17 #[.agg #[.int .i64 f, .int .i64 t], .int .i64 x] w fun e w' => e = .returned (.bool (hasB f t x)) ∧ Below w.heap.size w w' := by
  have r0 := Row.made w 48 #[.int .i64 f, .int .i64 t]
  obtain ⟨k0, k1, _, _⟩ := r0.two
  unfold hasB
  rcases Int.lt_or_le x f with h1 | h1
  · have d1 : decide (f ≤ x) = false := decide_eq_false (by omega)
    go_enter Try.func17, Try.ntmps17
    go_wp2
    go_ret
    exact ⟨by simp; omega, below_alloc _ _⟩
  · have d1 : decide (f ≤ x) = true := decide_eq_true h1
    go_enter Try.func17, Try.ntmps17
    go_wp2
    go_ret
    exact ⟨by simp; omega, below_alloc _ _⟩
end Go.Proofs.Ytiglkecmamnphaa
