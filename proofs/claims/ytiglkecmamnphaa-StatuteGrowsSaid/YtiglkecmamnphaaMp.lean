/- The map of what was found; what of memory a question leaves. -/
import Derived.Test.YtiglkecmamnphaaCk
import Derived.Maps.OwnSet
namespace Go.Proofs.Ytiglkecmamnphaa
open Go.RowKit Go.Sort Go.Lib Go.Maps

/-- How a finding in the map reads. -/
def encF (f : Fd) : DataW Unit := .agg [.lit (.int .i64 f.1), .lit (.bool f.2.1), .lit (.int .i64 f.2.2.1), .lit (.int .i64 f.2.2.2)]
def fdR (v : Value) : Option (DataW Unit × List MemPlace) :=
  match v with
  | .agg a => match a.toList with
    | [.int .i64 n, .bool h, .int .i64 f, .int .i64 c] => some (encF (n, h, f, c), [])
    | _ => none
  | _ => none
theorem fdR_mk (f : Fd) : fdR (.agg (fdC f)) = some (encF f, []) := rfl
theorem fdR_inv {v : Value} {z : DataW Unit × List MemPlace} (h : fdR v = some z) : ∃ f : Fd, v = .agg (fdC f) ∧ z = (encF f, []) := by
  unfold fdR at h
  split at h
  · rename_i a
    split at h
    · rename_i n b f c e
      refine ⟨(n, b, f, c), ?_, (Option.some.inj h).symm⟩
      have : a = #[.int .i64 n, .bool b, .int .i64 f, .int .i64 c] := by
        apply Array.ext'
        exact e
      rw [this]
      rfl
    · cases h
  · cases h
theorem encF_inj {f g : Fd} (h : encF f = encF g) : f = g := by
  obtain ⟨a, b, c, d⟩ := f
  obtain ⟨a', b', c', d'⟩ := g
  unfold encF at h
  simp at h
  obtain ⟨rfl, rfl, rfl, rfl⟩ := h
  rfl
theorem key_law : Keyed Try.prog 3 := int_keyed Try.underlying3
theorem key_of {n : Int} (h0 : 0 ≤ n) (h1 : n < 20) : keyOf Try.prog 3 (.int .i64 n) = some (.int .i64 n) := keyOf_int_mk Try.underlying3 (WalkArith.wf_i64 (by omega))
/-- The map in block gm holds the findings of S, each under its number. -/
def MapIs (W : World) (gm : Nat) (S : List Fd) : Prop :=
  ∃ D : DataW Unit, W.ownsMap Try.prog 3 fdR gm S.length D ∧ (∀ n : Int, Maps.has D (.int .i64 n) = S.any fun f => decide (f.1 = n)) ∧ ∀ f ∈ S, ∀ z, D.atKey (.int .i64 f.1) z = encF f
theorem MapIs.lt {W : World} {gm : Nat} {S : List Fd} (h : MapIs W gm S) : gm < W.heap.size := by
  obtain ⟨D, h, _⟩ := h
  exact h.lt
theorem MapIs.nocell {W : World} {gm : Nat} {S : List Fd} (h : MapIs W gm S) (o : Nat) : W.cell? ⟨gm, o, none⟩ = none := by
  obtain ⟨D, ⟨es, clock, hb, _⟩, _⟩ := h
  simp [World.cell?, hb]
theorem MapIs.step {W X : World} {gm : Nat} {S : List Fd} (h : MapIs W gm S) (hb : Below W.heap.size W X) : MapIs X gm S := by
  obtain ⟨D, h1, h2, h3⟩ := h
  exact ⟨D, h1.kept (grown_below hb none) (by simp), h2, h3⟩
theorem MapIs.put {W X : World} {gm : Nat} {S : List Fd} {D : DataW Unit} {f : Fd} (h0 : W.ownsMap Try.prog 3 fdR gm S.length D) (h2 : ∀ n : Int, Maps.has D (.int .i64 n) = S.any fun f => decide (f.1 = n)) (h3 : ∀ f ∈ S, ∀ z, D.atKey (.int .i64 f.1) z = encF f) (hn : ∀ g ∈ S, g.1 ≠ f.1) (hx : X.ownsMap Try.prog 3 fdR gm (S.length + 1) (D.put (.int .i64 f.1) (encF f))) : MapIs X gm (S ++ [f]) := by
  have hk : WideAt.IsKeyLit (.int .i64 f.1) := by first | trivial | simp [WideAt.IsKeyLit]
  refine ⟨_, by simpa using hx, fun n => ?_, fun g hg z => ?_⟩
  · rw [List.any_append]
    by_cases e : f.1 = n
    · subst e
      rw [Maps.has_put_same h0.isMap hk]
      simp
    · rw [Maps.has_put_other (fun h => e (by injection h with _ h; exact h.symm)), h2]
      simp [e]
  · rcases List.mem_append.1 hg with hg | hg
    · rw [Maps.atKey_put_other (fun h => hn g hg (by injection h)), h3 g hg]
    · rw [List.mem_singleton.1 hg]
      exact Maps.atKey_put_same h0.isMap hk _ _
theorem MapIs.made (W : World) : MapIs (W.alloc (.map #[] 0)) W.heap.size [] := by
  refine ⟨_, World.ownsMap_made W Try.prog 3 fdR, fun n => ?_, fun f hf => by cases hf⟩
  rfl
/-- Every cell keeps what it holds. -/
def KeepC (W X : World) : Prop := W.heap.size ≤ X.heap.size ∧ ∀ b o v, W.cell? ⟨b, o, none⟩ = some v → X.cell? ⟨b, o, none⟩ = some v
theorem keep_of {W X : World} {st : Option Nat} (hg : W.grownBy X st) (hc : ∀ g, st = some g → ∀ o, W.cell? ⟨g, o, none⟩ = none) : KeepC W X := ⟨hg.size, fun b o v h => by
  have hne : some b ≠ st := fun e => by
    have := hc b e.symm o
    rw [h] at this
    cases this
  exact (World.cell?_of_block (hg.block b (World.block_lt_of_cell? _ _ h) hne)).trans h⟩
theorem Nums.keepc {W X : World} {A : Option Addr} {l : List Int} (h : Nums W W.heap.size A l) (k : KeepC W X) : Nums X X.heap.size A l := by
  rcases h with h | ⟨b, o, hA, hB, hk⟩
  · exact .inl h
  · exact .inr ⟨b, o, hA, Nat.lt_of_lt_of_le hB k.1, fun i x hx => k.2 _ _ _ (hk i x hx)⟩
theorem IntsV.keepc {W X : World} {v : Value} {l : List Int} (h : IntsV W W.heap.size v l) (k : KeepC W X) : IntsV X X.heap.size v l := by
  obtain ⟨A, c, h1, h2, h3⟩ := h
  exact ⟨A, c, h1, h2, h3.keepc k⟩
theorem Cells.keepc {W X : World} {A : Option Addr} {n : Nat} {ls : List (Array Value)} (h : Cells W W.heap.size A n ls) (k : KeepC W X) : Cells X X.heap.size A n ls := by
  rcases h with h | ⟨b, o, hA, hB, hk⟩
  · exact .inl h
  · exact .inr ⟨b, o, hA, Nat.lt_of_lt_of_le hB k.1, fun i C hC j v hv => k.2 _ _ _ (hk i C hC j v hv)⟩
theorem BkV.keepc {W X : World} {cv rv fv : Value} {b : Bk} (h : BkV W W.heap.size cv rv fv b) (k : KeepC W X) : BkV X X.heap.size cv rv fv b := by
  obtain ⟨⟨A, c, h1, h2, h3⟩, ⟨A2, c2, g1, g2, g3⟩, ⟨A3, c3, k1, k2, k3⟩⟩ := h
  refine ⟨⟨A, c, h1, h2, ?_⟩, ⟨A2, c2, g1, g2, g3.keepc k⟩, ⟨A3, c3, k1, k2, k3.keepc k⟩⟩
  rcases h3 with h3 | ⟨bb, o, hA, hB, hc⟩
  · exact .inl h3
  · refine .inr ⟨bb, o, hA, Nat.lt_of_lt_of_le hB k.1, fun i x hx => ?_⟩
    obtain ⟨nv, bv, m1, m2, m3⟩ := hc i x hx
    exact ⟨nv, bv, m1.keepc k, m2.keepc k, fun j v hv => k.2 _ _ _ (m3 j v hv)⟩
theorem VwV.keepc {W X : World} {cv rv fv av bv : Value} {b : Bk} {q : Qn} (h : VwV W W.heap.size cv rv fv av bv b q) (k : KeepC W X) : VwV X X.heap.size cv rv fv av bv b q := ⟨h.1.keepc k, h.2.1.keepc k, h.2.2.keepc k⟩
/-- What the function ask has captured, and what it stands on. -/
structure AtS (b : Bk) (q : Qn) (cv rv fv av bv : Value) (gm g5 g2 g6 : Nat) (S : List Fd) (W : World) : Prop where
  c5 : W.cell? ⟨g5, 0, none⟩ = some (.map (some gm))
  r2 : Row W g2 79 #[cv, rv, fv, av, bv]
  c6 : W.cell? ⟨g6, 0, none⟩ = some (.func (.func 45) #[] #[.pointer (some ⟨g5, 0, none⟩), .pointer (some ⟨g2, 0, none⟩), .pointer (some ⟨g6, 0, none⟩)])
  vw : VwV W W.heap.size cv rv fv av bv b q
  mp : MapIs W gm S
  cl : Cld b q S
section
variable {b : Bk} {q : Qn} {cv rv fv av bv : Value} {gm g5 g2 g6 : Nat} {S : List Fd} {W X : World}
theorem AtS.nocell (h : AtS b q cv rv fv av bv gm g5 g2 g6 S W) : ∀ g, some gm = some g → g < W.heap.size ∧ ∀ o, W.cell? ⟨g, o, none⟩ = none := fun g e => by
  cases e
  exact ⟨h.mp.lt, h.mp.nocell⟩
theorem AtS.step (h : AtS b q cv rv fv av bv gm g5 g2 g6 S W) (hb : Below W.heap.size W X) : AtS b q cv rv fv av bv gm g5 g2 g6 S X :=
  ⟨(hb.cell (p := ⟨g5, 0, none⟩) (World.block_lt_of_cell? _ _ h.c5)).trans h.c5, h.r2.step hb, (hb.cell (p := ⟨g6, 0, none⟩) (World.block_lt_of_cell? _ _ h.c6)).trans h.c6, h.vw.deep hb, h.mp.step hb, h.cl⟩
theorem row_ne (h : AtS b q cv rv fv av bv gm g5 g2 g6 S W) {g : Nat} {t : TypeId} {C : Array Value} (hr : Row W g t C) (h0 : 0 < C.size) : some g ≠ some gm := fun e => by
  cases e
  have := h.mp.nocell 0
  rw [hr.at (i := 0) (v := C[0]) (Array.getElem?_eq_getElem h0)] at this
  cases this
theorem AtS.grown (h : AtS b q cv rv fv av bv gm g5 g2 g6 S W) (hg : W.grownBy X (some gm)) {S' : List Fd} (hm : MapIs X gm S') (hc : Cld b q S') : AtS b q cv rv fv av bv gm g5 g2 g6 S' X := by
  have k := keep_of hg fun g e => (h.nocell g e).2
  exact ⟨k.2 _ _ _ h.c5, h.r2.grown hg (row_ne h h.r2 (by simp)), k.2 _ _ _ h.c6, h.vw.keepc k, hm, hc⟩
end
end Go.Proofs.Ytiglkecmamnphaa
