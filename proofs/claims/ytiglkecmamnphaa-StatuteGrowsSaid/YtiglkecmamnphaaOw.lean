/- Rules of the call's own: rows of clauses, repeals and facts. -/
import Derived.Test.YtiglkecmamnphaaBt
namespace Go.Proofs.Ytiglkecmamnphaa
open Go.RowKit Go.Sort Go.Lib

/-- Elements laid out one after another. -/
def flG {α : Type} (enc : α → List Value) (l : List α) : List Value := l.flatMap enc
section
variable {α : Type} {enc : α → List Value} {k : Nat}
theorem flG_cons (x : α) (l : List α) : flG enc (x :: l) = enc x ++ flG enc l := rfl
theorem flG_app (a b : List α) : flG enc (a ++ b) = flG enc a ++ flG enc b := by simp [flG]
theorem flG_one (x : α) : flG enc [x] = enc x := by simp [flG]
theorem flG_len (h : ∀ x, (enc x).length = k) : ∀ l : List α, (flG enc l).length = l.length * k
  | [] => by simp [flG]
  | x :: l => by rw [flG_cons, List.length_append, flG_len h l, h, List.length_cons, Nat.add_mul, Nat.one_mul, Nat.add_comm]
theorem flG_at (h : ∀ x, (enc x).length = k) : ∀ (l : List α) (i j : Nat) (x : α), l[i]? = some x → j < k → (flG enc l)[i * k + j]? = (enc x)[j]?
  | [], i, j, x, e, _ => by simp at e
  | y :: l, 0, j, x, e, hj => by
    cases e
    rw [flG_cons, Nat.zero_mul, Nat.zero_add, List.getElem?_append_left (by rw [h]; exact hj)]
  | y :: l, i + 1, j, x, e, hj => by
    have := flG_at h l i j x (by simpa using e) hj
    rw [flG_cons, List.getElem?_append_right (by rw [h, Nat.add_mul]; omega), ← this]
    congr 1
    rw [h, Nat.add_mul]
    omega
theorem flG_set (h : ∀ x, (enc x).length = k) : ∀ (l : List α) (i j : Nat) (x y : α) (v : Value), l[i]? = some x → j < k → enc y = (enc x).set j v → (flG enc l).set (i * k + j) v = flG enc (l.set i y)
  | [], i, j, x, y, v, e, _, _ => by simp at e
  | z :: l, 0, j, x, y, v, e, hj, he => by
    cases e
    rw [flG_cons, Nat.zero_mul, Nat.zero_add, List.set_append_left _ _ (by rw [h]; exact hj), ← he]
    rfl
  | z :: l, i + 1, j, x, y, v, e, hj, he => by
    have := flG_set h l i j x y v (by simpa using e) hj he
    rw [flG_cons, List.set_append_right _ _ (by rw [h, Nat.add_mul]; omega), show (i + 1) * k + j - (enc z).length = i * k + j by rw [h, Nat.add_mul]; omega, this]
    rfl
/-- A row of the call's own, as elements of k cells. -/
theorem own_cells {w : World} {B n cap : Nat} {e : TypeId} {A : Option Addr} {l : List α} (hk : ∀ x, (enc x).length = k) (hn : n = l.length) (h : w.ownsRow B e k (.slice A n cap) n (flG enc l)) : Cells w w.heap.size A k (l.map fun x => (enc x).toArray) := by
  rcases h.2 with ⟨_, h0⟩ | ⟨g, cap', cur, hv, hB, hg, hcap, _, _, ht⟩
  · left
    rw [List.map_eq_nil_iff]
    exact List.eq_nil_of_length_eq_zero (by omega)
  · right
    cases hv
    refine ⟨g, 0, rfl, ?_, fun i C hC j v hv => ?_⟩
    · rcases Nat.lt_or_ge g w.heap.size with q | q
      · exact q
      · rw [Array.getElem?_eq_none q] at hg; cases hg
    · rw [List.getElem?_map] at hC
      cases hx : l[i]? with
      | none => rw [hx] at hC; cases hC
      | some x =>
        rw [hx] at hC
        cases hC
        have hi : i < l.length := (List.getElem?_eq_some_iff.1 hx).1
        have hv' : (enc x)[j]? = some v := by simpa using hv
        have hj : j < k := by rw [← hk x]; exact (List.getElem?_eq_some_iff.1 hv').1
        have hlt : i * k + j < n * k := by
          have : (i + 1) * k ≤ n * k := Nat.mul_le_mul_right k (by omega)
          rw [Nat.add_mul, Nat.one_mul] at this
          omega
        rw [Nat.zero_add, h.cellAt (i * k + j) hlt, flG_at hk l i j x hx hj, hv']
theorem own_rowsV {w : World} {B : Nat} {e : TypeId} {v : Value} {l : List α} (hk : ∀ x, (enc x).length = k) (hl : l.length ≤ Big) (h : w.ownsRow B e k v l.length (flG enc l)) : RowsV w w.heap.size v k (l.map fun x => (enc x).toArray) := by
  rcases h.2 with ⟨rfl, h0⟩ | ⟨g, cap', cur, rfl, hB, hg, hcap, _, _, ht⟩
  · have : l = [] := List.eq_nil_of_length_eq_zero h0
    subst this
    exact ⟨none, 0, rfl, Nat.zero_le _, .inl rfl⟩
  · exact ⟨some ⟨g, 0, none⟩, cap', by rw [List.length_map], by rw [List.length_map]; exact hl, own_cells hk rfl h⟩
end
theorem new_at (W : World) (t : TypeId) (C : List Value) : ∀ (j : Nat) (u : Value), C[j]? = some u → (W.alloc (Obj.cells C.toArray t)).cell? ((⟨W.heap.size, 0, none⟩ : Addr).add j) = some u := by
  intro j u hj
  have e0 : (⟨W.heap.size, 0, none⟩ : Addr).add j = ⟨W.heap.size, j, none⟩ := by unfold Addr.add; split <;> simp_all
  rw [e0]
  exact (Row.made W t C.toArray).at (by simpa using hj)

/-- A clause, and its two lists as values. -/
abbrev CV := Cls × Value × Value
def clsL (p : CV) : List Value := [.int .i64 p.1.pub, .int .i64 p.1.sf, .int .i64 p.1.st, p.2.1, p.2.2, .int .i64 p.1.gives]
def rplL (r : Rpl) : List Value := [.int .i64 r.clause, .int .i64 r.pub, .int .i64 r.frm]
def fctL (f : Fct) : List Value := [.int .i64 f.thing, .int .i64 f.says, .int .i64 f.sf, .int .i64 f.st, .int .i64 f.kf, .int .i64 f.kt]
theorem clsL_len (p : CV) : (clsL p).length = 6 := rfl
theorem rplL_len (r : Rpl) : (rplL r).length = 3 := rfl
theorem fctL_len (f : Fct) : (fctL f).length = 6 := rfl
theorem cls_info : (Try.prog.info? 51).map (fun i => (i.zero, i.size, i.bytes)) = some (some (.agg #[.int .i64 0, .int .i64 0, .int .i64 0, .slice none 0 0, .slice none 0 0, .int .i64 0]), 6, 80) := by kernel_rfl
theorem rpl_info : (Try.prog.info? 55).map (fun i => (i.zero, i.size, i.bytes)) = some (some (.agg #[.int .i64 0, .int .i64 0, .int .i64 0]), 3, 24) := by kernel_rfl
theorem fct_info : (Try.prog.info? 57).map (fun i => (i.zero, i.size, i.bytes)) = some (some (.agg #[.int .i64 0, .int .i64 0, .int .i64 0, .int .i64 0, .int .i64 0, .int .i64 0]), 6, 48) := by kernel_rfl
/-- A list of integers of the call's own. -/
def IRow (W : World) (v : Value) (l : List Int) : Prop := W.ownsRow 0 3 1 v l.length (iC l)
theorem IRow.of {W : World} {B : Nat} {v : Value} {l : List Int} (h : W.ownsRow B 3 1 v l.length (iC l)) : IRow W v l := own_less h (Nat.zero_le _)
theorem IRow.nil (W : World) : IRow W nilS [] := World.ownsRow_nil _ _ _ _
theorem IRow.step {W X : World} {v : Value} {l : List Int} (h : IRow W v l) (hb : Below W.heap.size W X) : IRow X v l := own_over h hb
theorem IRow.ints {W : World} {v : Value} {l : List Int} (h : IRow W v l) (hl : l.length ≤ Big) : IntsV W W.heap.size v l := own_V h hl
theorem IRow.kept {W X : World} {B k s : Nat} {e : TypeId} {v u : Value} {l : List Int} {xs : List Value} (h : IRow W v l) (ho : W.ownsRow B e s u k xs) (hne : 3 ≠ e) (hg : W.grownBy X u.ownBlock) : IRow X v l := by
  refine World.ownsRow.kept h hg ?_
  rcases h.2 with ⟨rfl, _⟩ | ⟨g', cap, cur, rfl, _, hg, _⟩
  · exact .inl rfl
  · exact .inr (fun e => own_row3 ho (C := cur) (g := g') hg hne e)
theorem IRow.aside {W : World} {v : Value} {l : List Int} {g : Nat} {t : TypeId} {C : Array Value} (h : IRow W v l) (hr : Row W g t C) (hne : t ≠ 3) (i : Nat) (u : Value) : IRow (W.setCell ⟨g, i, none⟩ u) v l :=
  World.ownsRow.kept h (grown_set _ _ _ _) (.inr fun e => own_row3 h hr hne e.symm)
theorem own_apart {X : World} {b1 b2 k1 k2 s1 s2 : Nat} {e1 e2 : TypeId} {v1 v2 : Value} {xs ys : List Value} (h : X.ownsRow b1 e1 s1 v1 k1 xs) (k : X.ownsRow b2 e2 s2 v2 k2 ys) (hne : e1 ≠ e2) : v1.ownBlock = none ∨ v1.ownBlock ≠ v2.ownBlock := by
  rcases h.2 with ⟨rfl, _⟩ | ⟨g', cap, cur, rfl, _, hg, _⟩
  · exact .inl rfl
  · exact .inr (fun e => own_row3 k (C := cur) (g := g') hg hne e)
/-- Rules whose three rows are the call's own. -/
structure OwnB (W : World) (B : Nat) (cv rv fv : Value) (cs : List CV) (rs : List Rpl) (fs : List Fct) : Prop where
  c : W.ownsRow B 51 6 cv cs.length (flG clsL cs)
  n : ∀ p ∈ cs, IRow W p.2.1 p.1.needs ∧ IRow W p.2.2 p.1.bars
  r : W.ownsRow B 55 3 rv rs.length (flG rplL rs)
  f : W.ownsRow B 57 6 fv fs.length (flG fctL fs)
section
variable {W X : World} {B : Nat} {cv rv fv : Value} {cs : List CV} {rs : List Rpl} {fs : List Fct}
theorem OwnB.none (W : World) (B : Nat) : OwnB W B nilS nilS nilS [] [] [] := ⟨World.ownsRow_nil _ _ _ _, fun p h => (by cases h), World.ownsRow_nil _ _ _ _, World.ownsRow_nil _ _ _ _⟩
theorem OwnB.step (h : OwnB W B cv rv fv cs rs fs) (hb : Below W.heap.size W X) : OwnB X B cv rv fv cs rs fs := ⟨own_over h.c hb, fun p hp => ⟨(h.n p hp).1.step hb, (h.n p hp).2.step hb⟩, own_over h.r hb, own_over h.f hb⟩
theorem OwnB.less {B' : Nat} (h : OwnB W B cv rv fv cs rs fs) (hB : B' ≤ B) : OwnB W B' cv rv fv cs rs fs := ⟨own_less h.c hB, h.n, own_less h.r hB, own_less h.f hB⟩
theorem OwnB.addC {cv' : Value} {p : CV} (h : OwnB W B cv rv fv cs rs fs) (hp : IRow W p.2.1 p.1.needs ∧ IRow W p.2.2 p.1.bars) (hg : W.grownBy X cv.ownBlock) (ho : X.ownsRow B 51 6 cv' (cs.length + 1) (flG clsL cs ++ clsL p)) : OwnB X B cv' rv fv (cs ++ [p]) rs fs := by
  refine ⟨?_, fun q hq => ?_, h.r.kept hg (own_apart h.r h.c (by decide)), h.f.kept hg (own_apart h.f h.c (by decide))⟩
  · rw [flG_app, flG_one, List.length_append]; exact ho
  · have hq' : IRow W q.2.1 q.1.needs ∧ IRow W q.2.2 q.1.bars := by
      rcases List.mem_append.1 hq with hq | hq
      · exact h.n q hq
      · rcases List.mem_singleton.1 hq with rfl; exact hp
    exact ⟨hq'.1.kept h.c (by decide) hg, hq'.2.kept h.c (by decide) hg⟩
theorem OwnB.addR {rv' : Value} {p : Rpl} (h : OwnB W B cv rv fv cs rs fs) (hg : W.grownBy X rv.ownBlock) (ho : X.ownsRow B 55 3 rv' (rs.length + 1) (flG rplL rs ++ rplL p)) : OwnB X B cv rv' fv cs (rs ++ [p]) fs := by
  refine ⟨h.c.kept hg (own_apart h.c h.r (by decide)), fun q hq => ⟨(h.n q hq).1.kept h.r (by decide) hg, (h.n q hq).2.kept h.r (by decide) hg⟩, ?_, h.f.kept hg (own_apart h.f h.r (by decide))⟩
  rw [flG_app, flG_one, List.length_append]; exact ho
theorem OwnB.addF {fv' : Value} {p : Fct} (h : OwnB W B cv rv fv cs rs fs) (hg : W.grownBy X fv.ownBlock) (ho : X.ownsRow B 57 6 fv' (fs.length + 1) (flG fctL fs ++ fctL p)) : OwnB X B cv rv fv' cs rs (fs ++ [p]) := by
  refine ⟨h.c.kept hg (own_apart h.c h.f (by decide)), fun q hq => ⟨(h.n q hq).1.kept h.f (by decide) hg, (h.n q hq).2.kept h.f (by decide) hg⟩, h.r.kept hg (own_apart h.r h.f (by decide)), ?_⟩
  rw [flG_app, flG_one, List.length_append]; exact ho
/-- A store into a block of another kind. -/
theorem OwnB.aside {g : Nat} {t : TypeId} {C : Array Value} (h : OwnB W B cv rv fv cs rs fs) (hr : Row W g t C) (hne : t ≠ 51 ∧ t ≠ 55 ∧ t ≠ 57 ∧ t ≠ 3) (i : Nat) (u : Value) : OwnB (W.setCell ⟨g, i, Option.none⟩ u) B cv rv fv cs rs fs :=
  ⟨h.c.kept (grown_set _ _ _ _) (.inr fun e => own_row3 h.c hr hne.1 e.symm), fun q hq => ⟨(h.n q hq).1.aside hr hne.2.2.2 i u, (h.n q hq).2.aside hr hne.2.2.2 i u⟩,
    h.r.kept (grown_set _ _ _ _) (.inr fun e => own_row3 h.r hr hne.2.1 e.symm), h.f.kept (grown_set _ _ _ _) (.inr fun e => own_row3 h.f hr hne.2.2.1 e.symm)⟩
theorem OwnB.bkv (h : OwnB W B cv rv fv cs rs fs) (hc : cs.length ≤ Big) (hr : rs.length ≤ Big) (hf : fs.length ≤ Big) (hn : ∀ p ∈ cs, p.1.needs.length ≤ Big ∧ p.1.bars.length ≤ Big) : BkV W W.heap.size cv rv fv ⟨cs.map (·.1), rs, fs⟩ := by
  refine ⟨?_, own_rowsV (enc := rplL) rplL_len hr h.r, own_rowsV (enc := fctL) fctL_len hf h.f⟩
  obtain ⟨A, c, h1, h2, h3⟩ := own_rowsV (enc := clsL) clsL_len hc h.c
  rw [List.length_map] at h1 h2
  refine ⟨A, c, by rw [List.length_map]; exact h1, by rw [List.length_map]; exact h2, ?_⟩
  rcases h3 with h3 | ⟨b, o, hA, hB, hcc⟩
  · left
    rw [List.map_eq_nil_iff] at h3
    dsimp only
    rw [h3]; rfl
  · refine .inr ⟨b, o, hA, hB, fun i x hx => ?_⟩
    rw [List.getElem?_map] at hx
    cases hp : cs[i]? with
    | none => rw [hp] at hx; cases hx
    | some p =>
      rw [hp] at hx
      cases hx
      have hm := List.mem_of_getElem? hp
      refine ⟨p.2.1, p.2.2, (h.n p hm).1.ints (hn p hm).1, (h.n p hm).2.ints (hn p hm).2, fun j v hv => ?_⟩
      exact hcc i (clsL p).toArray (by rw [List.getElem?_map, hp]; rfl) j v (by simpa [clsL, clsC] using hv)
end
section
variable {w W : World} {B B' : Nat} {v cv rv fv : Value}
theorem IntsV.below {l : List Int} (h : IntsV w B v l) (hb : Below B w W) : IntsV W B v l := by
  obtain ⟨A, c, h1, h2, h3⟩ := h
  exact ⟨A, c, h1, h2, h3.below hb⟩
theorem IntsV.more {l : List Int} (h : IntsV w B v l) (hB : B ≤ B') : IntsV w B' v l := by
  obtain ⟨A, c, h1, h2, h3⟩ := h
  exact ⟨A, c, h1, h2, h3.more hB⟩
theorem RowsV.below {k : Nat} {l : List (Array Value)} (h : RowsV w B v k l) (hb : Below B w W) : RowsV W B v k l := by
  obtain ⟨A, c, h1, h2, h3⟩ := h
  exact ⟨A, c, h1, h2, h3.below hb⟩
theorem RowsV.more {k : Nat} {l : List (Array Value)} (h : RowsV w B v k l) (hB : B ≤ B') : RowsV w B' v k l := by
  obtain ⟨A, c, h1, h2, h3⟩ := h
  exact ⟨A, c, h1, h2, h3.more hB⟩
theorem ClsV.below {l : List Cls} (h : ClsV w B v l) (hb : Below B w W) : ClsV W B v l := by
  obtain ⟨A, c, h1, h2, h3⟩ := h
  refine ⟨A, c, h1, h2, ?_⟩
  rcases h3 with h3 | ⟨b, o, hA, hB, hc⟩
  · exact .inl h3
  · refine .inr ⟨b, o, hA, hB, fun i x hx => ?_⟩
    obtain ⟨nv, bv, k1, k2, k3⟩ := hc i x hx
    exact ⟨nv, bv, k1.below hb, k2.below hb, fun j v hv => by rw [hb.cell (p := ⟨b, o + i * 6 + j, none⟩) hB]; exact k3 j v hv⟩
theorem ClsV.more {l : List Cls} (h : ClsV w B v l) (hB : B ≤ B') : ClsV w B' v l := by
  obtain ⟨A, c, h1, h2, h3⟩ := h
  refine ⟨A, c, h1, h2, ?_⟩
  rcases h3 with h3 | ⟨b, o, hA, hB1, hc⟩
  · exact .inl h3
  · refine .inr ⟨b, o, hA, Nat.lt_of_lt_of_le hB1 hB, fun i x hx => ?_⟩
    obtain ⟨nv, bv, k1, k2, k3⟩ := hc i x hx
    exact ⟨nv, bv, k1.more hB, k2.more hB, k3⟩
theorem BkV.below {b : Bk} (h : BkV w B cv rv fv b) (hb : Below B w W) : BkV W B cv rv fv b := ⟨h.1.below hb, h.2.1.below hb, h.2.2.below hb⟩
theorem BkV.more {b : Bk} (h : BkV w B cv rv fv b) (hB : B ≤ B') : BkV w B' cv rv fv b := ⟨h.1.more hB, h.2.1.more hB, h.2.2.more hB⟩
end
end Go.Proofs.Ytiglkecmamnphaa
