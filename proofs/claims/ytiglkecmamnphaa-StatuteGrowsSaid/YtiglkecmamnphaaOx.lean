/- Rules of the call's own: a clause's list set anew; rules as the checker sees them. -/
import Derived.Test.YtiglkecmamnphaaIns
namespace Go.Proofs.Ytiglkecmamnphaa
open Go.RowKit Go.Sort Go.Lib

section
variable {W X : World} {B g cap : Nat} {rv fv : Value} {cs : List CV} {rs : List Rpl} {fs : List Fct}
theorem OwnB.kept_c {v : Value} {j : Nat} (h : OwnB W B (.slice (some ⟨g, 0, Option.none⟩) cs.length cap) rv fv cs rs fs) : (∀ u l, IRow W u l → IRow (W.setCell ⟨g, j, Option.none⟩ v) u l) ∧ (W.setCell ⟨g, j, Option.none⟩ v).ownsRow B 55 3 rv rs.length (flG rplL rs) ∧ (W.setCell ⟨g, j, Option.none⟩ v).ownsRow B 57 6 fv fs.length (flG fctL fs) := by
  have hg : W.grownBy (W.setCell ⟨g, j, Option.none⟩ v) (Value.slice (some ⟨g, 0, Option.none⟩) cs.length cap).ownBlock := grown_set W g j v
  exact ⟨fun u l hu => hu.kept h.c (by decide) hg, h.r.kept hg (own_apart h.r h.c (by decide)), h.f.kept hg (own_apart h.f h.c (by decide))⟩
theorem OwnB.setN {k : Nat} {p : CV} {l' : List Int} {v' : Value} (h : OwnB W B (.slice (some ⟨g, 0, Option.none⟩) cs.length cap) rv fv cs rs fs) (hp : cs[k]? = some p) (hl : IRow W v' l') :
    OwnB (W.setCell ⟨g, k * 6 + 3, Option.none⟩ v') B (.slice (some ⟨g, 0, Option.none⟩) cs.length cap) rv fv (cs.set k ({ p.1 with needs := l' }, v', p.2.2)) rs fs := by
  obtain ⟨k1, k2, k3⟩ := h.kept_c (v := v') (j := k * 6 + 3)
  refine ⟨?_, fun q hq => ?_, k2, k3⟩
  · have := (h.c.stored (k * 6 + 3) v').1
    rw [flG_set clsL_len cs k 3 p ({ p.1 with needs := l' }, v', p.2.2) v' hp (by omega) rfl] at this
    rw [List.length_set]; exact this
  · rcases List.mem_or_eq_of_mem_set hq with hq | rfl
    · exact ⟨k1 _ _ (h.n q hq).1, k1 _ _ (h.n q hq).2⟩
    · exact ⟨k1 _ _ hl, k1 _ _ (h.n p (List.mem_of_getElem? hp)).2⟩
theorem OwnB.setB {k : Nat} {p : CV} {l' : List Int} {v' : Value} (h : OwnB W B (.slice (some ⟨g, 0, Option.none⟩) cs.length cap) rv fv cs rs fs) (hp : cs[k]? = some p) (hl : IRow W v' l') :
    OwnB (W.setCell ⟨g, k * 6 + 4, Option.none⟩ v') B (.slice (some ⟨g, 0, Option.none⟩) cs.length cap) rv fv (cs.set k ({ p.1 with bars := l' }, p.2.1, v')) rs fs := by
  obtain ⟨k1, k2, k3⟩ := h.kept_c (v := v') (j := k * 6 + 4)
  refine ⟨?_, fun q hq => ?_, k2, k3⟩
  · have := (h.c.stored (k * 6 + 4) v').1
    rw [flG_set clsL_len cs k 4 p ({ p.1 with bars := l' }, p.2.1, v') v' hp (by omega) rfl] at this
    rw [List.length_set]; exact this
  · rcases List.mem_or_eq_of_mem_set hq with hq | rfl
    · exact ⟨k1 _ _ (h.n q hq).1, k1 _ _ (h.n q hq).2⟩
    · exact ⟨k1 _ _ (h.n p (List.mem_of_getElem? hp)).1, k1 _ _ hl⟩
end
/-- Rules of the call's own, and the box in which they lie. -/
structure Bx (w : World) (gl : Nat) (cv rv fv : Value) (cs : List CV) (rs : List Rpl) (fs : List Fct) (W : World) : Prop where
  o : OwnB W w.heap.size cv rv fv cs rs fs
  r : Row W gl 34 #[cv, rv, fv]
  b : Below w.heap.size w W
  l : w.heap.size ≤ gl
section
variable {w W Y w1 : World} {gl : Nat} {cv rv fv : Value} {cs : List CV} {rs : List Rpl} {fs : List Fct}
theorem Bx.step (h : Bx w gl cv rv fv cs rs fs W) (hb : Below W.heap.size W Y) : Bx w gl cv rv fv cs rs fs Y := ⟨h.o.step hb, h.r.step hb, below_step h.b hb, h.l⟩
theorem Bx.putc {cv' rv' fv' u : Value} {cs' : List CV} {rs' : List Rpl} {fs' : List Fct} (i : Nat) (hc : Row W gl 34 #[cv, rv, fv]) (ho : OwnB W w.heap.size cv' rv' fv' cs' rs' fs') (hb : Below w.heap.size w W) (hl : w.heap.size ≤ gl)
    (he : (#[cv, rv, fv] : Array Value).setIfInBounds i u = #[cv', rv', fv']) : Bx w gl cv' rv' fv' cs' rs' fs' (W.setCell ⟨gl, i, none⟩ u) :=
  ⟨ho.aside hc (by decide) i u, by rw [← he]; exact hc.stored i u, hb.setCell (p := ⟨gl, i, none⟩) hl _, hl⟩
theorem Bx.addC {cv' : Value} {p : CV} (h : Bx w gl cv rv fv cs rs fs W) (hp : IRow W p.2.1 p.1.needs ∧ IRow W p.2.2 p.1.bars) (hg : W.grownBy w1 cv.ownBlock) (ho : w1.ownsRow w.heap.size 51 6 cv' (cs.length + 1) (flG clsL cs ++ clsL p)) :
    Row w1 gl 34 #[cv, rv, fv] ∧ Bx w gl cv' rv fv (cs ++ [p]) rs fs (w1.setCell ⟨gl, 0, none⟩ cv') := by
  have hc := h.r.grown hg (own_row3 h.o.c h.r (by decide))
  exact ⟨hc, Bx.putc 0 hc (h.o.addC hp hg ho) (keep_grown h.b hg h.o.c) h.l rfl⟩
theorem Bx.addR {rv' : Value} {p : Rpl} (h : Bx w gl cv rv fv cs rs fs W) (hg : W.grownBy w1 rv.ownBlock) (ho : w1.ownsRow w.heap.size 55 3 rv' (rs.length + 1) (flG rplL rs ++ rplL p)) :
    Row w1 gl 34 #[cv, rv, fv] ∧ Bx w gl cv rv' fv cs (rs ++ [p]) fs (w1.setCell ⟨gl, 1, none⟩ rv') := by
  have hc := h.r.grown hg (own_row3 h.o.r h.r (by decide))
  exact ⟨hc, Bx.putc 1 hc (h.o.addR hg ho) (keep_grown h.b hg h.o.r) h.l rfl⟩
theorem Bx.addF {fv' : Value} {p : Fct} (h : Bx w gl cv rv fv cs rs fs W) (hg : W.grownBy w1 fv.ownBlock) (ho : w1.ownsRow w.heap.size 57 6 fv' (fs.length + 1) (flG fctL fs ++ fctL p)) :
    Row w1 gl 34 #[cv, rv, fv] ∧ Bx w gl cv rv fv' cs rs (fs ++ [p]) (w1.setCell ⟨gl, 2, none⟩ fv') := by
  have hc := h.r.grown hg (own_row3 h.o.f h.r (by decide))
  exact ⟨hc, Bx.putc 2 hc (h.o.addF hg ho) (keep_grown h.b hg h.o.f) h.l rfl⟩
theorem Bx.setN {g cap k : Nat} {p : CV} {l' : List Int} {v' : Value} (h : Bx w gl (.slice (some ⟨g, 0, none⟩) cs.length cap) rv fv cs rs fs W) (hp : cs[k]? = some p) (hl : IRow W v' l') :
    Bx w gl (.slice (some ⟨g, 0, none⟩) (cs.set k ({ p.1 with needs := l' }, v', p.2.2)).length cap) rv fv (cs.set k ({ p.1 with needs := l' }, v', p.2.2)) rs fs (W.setCell ⟨g, k * 6 + 3, none⟩ v') := by
  rw [List.length_set]
  exact ⟨h.o.setN hp hl, h.r.aside (p := ⟨g, k * 6 + 3, none⟩) (fun e => own_row3 h.o.c h.r (by decide) (by rw [← e]; rfl)) _, h.b.setCell (p := ⟨g, k * 6 + 3, none⟩) (h.o.c.lt g rfl).1 _, h.l⟩
theorem Bx.setB {g cap k : Nat} {p : CV} {l' : List Int} {v' : Value} (h : Bx w gl (.slice (some ⟨g, 0, none⟩) cs.length cap) rv fv cs rs fs W) (hp : cs[k]? = some p) (hl : IRow W v' l') :
    Bx w gl (.slice (some ⟨g, 0, none⟩) (cs.set k ({ p.1 with bars := l' }, p.2.1, v')).length cap) rv fv (cs.set k ({ p.1 with bars := l' }, p.2.1, v')) rs fs (W.setCell ⟨g, k * 6 + 4, none⟩ v') := by
  rw [List.length_set]
  exact ⟨h.o.setB hp hl, h.r.aside (p := ⟨g, k * 6 + 4, none⟩) (fun e => own_row3 h.o.c h.r (by decide) (by rw [← e]; rfl)) _, h.b.setCell (p := ⟨g, k * 6 + 4, none⟩) (h.o.c.lt g rfl).1 _, h.l⟩
/-- As the checker sees them. -/
theorem Bx.bk (h : Bx w gl cv rv fv cs rs fs W) {b : Bk} (hb : b = ⟨cs.map (·.1), rs, fs⟩) (hv : validB b = true) : BkV W W.heap.size cv rv fv b := by
  have hs := small_of hv
  subst hb
  obtain ⟨h1, h2, h3, h4⟩ := hs
  dsimp only at h1 h2 h3
  rw [List.length_map] at h1
  refine h.o.bkv (by show _ ≤ 9223372036854775807; omega) (by show _ ≤ 9223372036854775807; omega) (by show _ ≤ 9223372036854775807; omega) fun p hp => ?_
  have := h4 p.1 (List.mem_map.2 ⟨p, hp, rfl⟩)
  exact ⟨by show _ ≤ 9223372036854775807; omega, by show _ ≤ 9223372036854775807; omega⟩
end
/-- A copy, in a box. -/
theorem copy_bx (b : Bk) (hv : validB b = true) (A1 : Option Addr) (c1 : Nat) (A2 : Option Addr) (c2 : Nat) (A3 : Option Addr) (c3 : Nat) (w : World) (hw : BkV w w.heap.size (.slice A1 b.cls.length c1) (.slice A2 b.rpl.length c2) (.slice A3 b.fct.length c3) b) :
    Calls Try.prog 15 #[bkA A1 b.cls.length c1 A2 b.rpl.length c2 A3 b.fct.length c3] w fun e w' => ∃ A c A2 c2 A3 c3 cs, e = .returned (bkA A cs.length c A2 b.rpl.length c2 A3 b.fct.length c3) ∧ cs.map (·.1) = b.cls ∧ Bx w w'.heap.size (.slice A cs.length c) (.slice A2 b.rpl.length c2) (.slice A3 b.fct.length c3) cs b.rpl b.fct (w'.alloc (.cells #[.slice A cs.length c, .slice A2 b.rpl.length c2, .slice A3 b.fct.length c3] 34)) :=
  (copy_any b (small_of hv) A1 c1 A2 c2 A3 c3 w hw).mono fun e w' ⟨cv, rv, fv, cs, he, ho, hc, hb⟩ => by
    obtain ⟨A, c, rfl⟩ := own_len ho.c
    obtain ⟨A2, c2, rfl⟩ := own_len ho.r
    obtain ⟨A3, c3, rfl⟩ := own_len ho.f
    exact ⟨A, c, A2, c2, A3, c3, cs, he, hc, ho.step (below_alloc _ _), Row.made _ _ _, keep_alloc hb _, hb.size⟩
/-- What Decide says, its proof left aside. -/
theorem dec_val (b : Bk) (q : Qn) (a : Bool) (hv : validB b = true) (hq : asksB q = true) (ha : soB b q q.says = a) (cv rv fv : Value) (W : World) (h : BkV W W.heap.size cv rv fv b) :
    Calls Try.prog 12 #[.agg #[cv, rv, fv], .agg (qnC q)] W fun e w' => ∃ A n c, e = .returned (.tuple #[.bool a, .slice A n c, .int .i64 0]) ∧ Below W.heap.size W w' :=
  (decide_yes b q cv rv fv W h (bki_of hv) hv hq).mono fun e w' ⟨A, c, m, he, _, _, hb⟩ => by
    rw [ha] at he
    exact ⟨A, _, c, he, hb⟩
end Go.Proofs.Ytiglkecmamnphaa
