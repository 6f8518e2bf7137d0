/- What every closing text of this seat shares: arguments opened, arguments that read as before, the witness's world. -/
import Derived.Test.YtiglkecmamnphaaRows
import Derived.Test.YtiglkecmamnphaaPx
import Derived.Lib.SmallJoins
import Derived.SliceStrings
import Derived.ProofKit
import Derived.OpenShut
import Derived.ChangeOld
import Derived.Carry
import Derived.Deep.DeepHandedRow
import Derived.Deep.Slices
import Derived.Deep.Strs
namespace Go.Proofs.Ytiglkecmamnphaa
open Go.ChangeShapes Go.WideShapes Go.ChangeAt Go.RowKit Go.Joins Go.Deep

theorem sixL_len (y : Six) : (sixL y).length = 6 := rfl
theorem triL_len (y : Tri) : (triL y).length = 3 := rfl
theorem own : ownKnob Try.prog.godebug = none := by kernel_rfl
theorem laidOut : laidOutB Try.prog = true := by kernel_rfl
/-- Arguments read behind the call as before it. -/
theorem trodAll_below {H : Type} {enc : TypeId × Value → H} {P : Program} (hl : laidOutB P = true) {W W' : World} :
    ∀ {ts : List TypeId} {vs : List Value} {ds : List (DataW H)} {p : List MemPlace}, DataW.TrodAll enc P W 0 (fun _ => true) true ts vs ds p → Below W.heap.size W W' → (∀ x ∈ p, x.block < W.heap.size) →
      (∀ t ∈ ts, P.readableRec t = true ∧ t < P.types.size) → DataW.TrodAll enc P W' 0 (fun b => decide (b < W.heap.size)) true ts vs ds p
  | [], vs, ds, p, h, _, _, _ => by
    obtain ⟨rfl, rfl, rfl⟩ := trodAll_nil h
    exact trodAll_mk0
  | t :: ts, vs, ds, p, h, hb, hlt, hr => by
    obtain ⟨v, vs', d, ds', q, r, rfl, rfl, rfl, h1, h2⟩ := trodAll_cons h
    have ht := hr t (by simp)
    exact trodAll_cons_mk (Below.trod hl ht.1 ht.2 h1 hb (fun x hx => hlt x (by simp [hx]))) (trodAll_below hl h2 hb (fun x hx => hlt x (by simp [hx])) (fun t' h' => hr t' (by simp [h'])))
theorem okWide_array {P : Program} {w : World} {r : Reach} {base : Nat} {t e : TypeId} {n : Nat} {v : Value} (ht : P.underlying t = some (.array n e)) (h : Value.okWide P w r base t v) : ∃ cs, v = .agg cs ∧ cs.size = P.cellsOf t := by
  simp only [Value.okWide, ht] at h
  obtain ⟨cs, h1, h2, _⟩ := h
  exact ⟨cs, h1, h2⟩
/-- An array of two integers, opened. -/
theorem open_int2 {H : Type} {enc : TypeId × Value → H} {P : Program} {W : World} {base : Nat} {t e : TypeId} {v : Value} {d : DataW H} {p : List MemPlace} (ht : P.underlying t = some (.array 2 e))
    (he : P.underlying e = some (.int .i64)) (hc1 : P.cellsOf e = 1) (hc2 : P.cellsOf t = 2) (hv : Value.okWide P W .any base t v) (h : DataW.Trod enc P W 0 (fun _ => true) true t v d p) :
    ∃ a b : Int, v = .agg #[.int .i64 a, .int .i64 b] ∧ (-9223372036854775808 ≤ a ∧ a ≤ 9223372036854775807) ∧ (-9223372036854775808 ≤ b ∧ b ≤ 9223372036854775807) := by
  obtain ⟨cs, rfl, hsz⟩ := okWide_array ht hv
  rw [hc2] at hsz
  obtain ⟨c0, c1, rfl⟩ := array2 hsz
  obtain ⟨fuel, hf⟩ := h
  obtain ⟨xs, m, _, _, _, hl, hf⟩ := DataW.trod_array ht hf
  match xs, hl with
  | [y0, y1], _ =>
    have h0 := hf 0 (by omega)
    have h1 := hf 1 (by omega)
    rw [hc1] at h0 h1
    obtain ⟨a, e0, _, w0⟩ := DataW.trod_int he (x := y0) (by simpa [Value.cells] using h0)
    obtain ⟨b, e1, _, w1⟩ := DataW.trod_int he (x := y1) (by simpa [Value.cells] using h1)
    simp only [List.cons.injEq, and_true] at e0 e1
    subst e0 e1
    exact ⟨a, b, rfl, bounds_i64 w0, bounds_i64 w1⟩

theorem open_int4 {H : Type} {enc : TypeId × Value → H} {P : Program} {W : World} {base : Nat} {t e : TypeId} {v : Value} {d : DataW H} {p : List MemPlace} (ht : P.underlying t = some (.array 4 e))
    (he : P.underlying e = some (.int .i64)) (hc1 : P.cellsOf e = 1) (hc2 : P.cellsOf t = 4) (hv : Value.okWide P W .any base t v) (h : DataW.Trod enc P W 0 (fun _ => true) true t v d p) :
    ∃ a b c f : Int, v = .agg #[.int .i64 a, .int .i64 b, .int .i64 c, .int .i64 f] ∧ (-9223372036854775808 ≤ a ∧ a ≤ 9223372036854775807) ∧ (-9223372036854775808 ≤ b ∧ b ≤ 9223372036854775807) ∧ (-9223372036854775808 ≤ c ∧ c ≤ 9223372036854775807) ∧ (-9223372036854775808 ≤ f ∧ f ≤ 9223372036854775807) := by
  obtain ⟨cs, rfl, hsz⟩ := okWide_array ht hv
  rw [hc2] at hsz
  obtain ⟨c0, c1, c2, c3, rfl⟩ := array4 hsz
  obtain ⟨fuel, hf⟩ := h
  obtain ⟨xs, m, _, _, _, hl, hf⟩ := DataW.trod_array ht hf
  match xs, hl with
  | [y0, y1, y2, y3], _ =>
    have h0 := hf 0 (by omega)
    have h1 := hf 1 (by omega)
    have h2 := hf 2 (by omega)
    have h3 := hf 3 (by omega)
    rw [hc1] at h0 h1 h2 h3
    obtain ⟨a, e0, _, w0⟩ := DataW.trod_int he (x := y0) (by simpa [Value.cells] using h0)
    obtain ⟨b, e1, _, w1⟩ := DataW.trod_int he (x := y1) (by simpa [Value.cells] using h1)
    obtain ⟨c, e2, _, w2⟩ := DataW.trod_int he (x := y2) (by simpa [Value.cells] using h2)
    obtain ⟨f, e3, _, w3⟩ := DataW.trod_int he (x := y3) (by simpa [Value.cells] using h3)
    simp only [List.cons.injEq, and_true] at e0 e1 e2 e3
    subst e0 e1 e2 e3
    exact ⟨a, b, c, f, rfl, bounds_i64 w0, bounds_i64 w1, bounds_i64 w2, bounds_i64 w3⟩
theorem cap_of {H : Type} {enc : TypeId × Value → H} {P : Program} {W : World} {t e : TypeId} {n len cap : Nat} {A : Option Addr} {x : DataW H × List MemPlace} (ht : P.underlying t = some (.slice e))
    (h : DataW.trod enc P W 0 (fun _ => true) true n t [.slice A len cap] = some x) : len ≤ cap ∧ cap ≤ 9223372036854775807 := by
  rcases open_slice ht h with ⟨hc, _⟩ | ⟨a, l, c, m, k, D, Pl, hc, hb, hl, hm, _⟩
  · cases hc; omega
  · cases hc; unfold maxLen at hm; omega

/-- What an element's cells are. -/
def ElemG {α : Type} (enc : α → List Value) (Good : α → Prop) (P : Program) (e : TypeId) : Prop := ∀ (H : Type) (ec : TypeId × Value → H) (W : World) (n : Nat) (cs : List Value) (y : DataW H × List MemPlace), DataW.trod ec P W 0 (fun _ => true) true n e cs = some y → ∃ x, cs = enc x ∧ Good x
theorem elem_six {P : Program} {t e : TypeId} (ht : P.underlying t = some (.array 6 e)) (he : P.underlying e = some (.int .i64)) (hc : P.cellsOf e = 1 ∧ P.cellsOf t = 6) : ElemG sixL In6 P t := by
  intro H ec W n cs y h
  obtain ⟨xs, m, _, _, hcs, hl, hf⟩ := DataW.trod_array ht h
  rw [hc.2] at hcs
  match xs, hl, cs, hcs with
  | [y0, y1, y2, y3, y4, y5], _, [c0, c1, c2, c3, c4, c5], _ =>
    have h0 := hf 0 (by omega)
    have h1 := hf 1 (by omega)
    have h2 := hf 2 (by omega)
    have h3 := hf 3 (by omega)
    have h4 := hf 4 (by omega)
    have h5 := hf 5 (by omega)
    rw [hc.1] at h0 h1 h2 h3 h4 h5
    obtain ⟨a0, e0, _, w0⟩ := DataW.trod_int he (x := y0) (by simpa using h0)
    obtain ⟨a1, e1, _, w1⟩ := DataW.trod_int he (x := y1) (by simpa using h1)
    obtain ⟨a2, e2, _, w2⟩ := DataW.trod_int he (x := y2) (by simpa using h2)
    obtain ⟨a3, e3, _, w3⟩ := DataW.trod_int he (x := y3) (by simpa using h3)
    obtain ⟨a4, e4, _, w4⟩ := DataW.trod_int he (x := y4) (by simpa using h4)
    obtain ⟨a5, e5, _, w5⟩ := DataW.trod_int he (x := y5) (by simpa using h5)
    simp only [List.cons.injEq, and_true] at e0 e1 e2 e3 e4 e5
    subst e0 e1 e2 e3 e4 e5
    exact ⟨(a0, a1, a2, a3, a4, a5), rfl, bounds_i64 w0, bounds_i64 w1, bounds_i64 w2, bounds_i64 w3, bounds_i64 w4, bounds_i64 w5⟩
theorem elem_tri {P : Program} {t e : TypeId} (ht : P.underlying t = some (.array 3 e)) (he : P.underlying e = some (.int .i64)) (hc : P.cellsOf e = 1 ∧ P.cellsOf t = 3) : ElemG triL In3 P t := by
  intro H ec W n cs y h
  obtain ⟨xs, m, _, _, hcs, hl, hf⟩ := DataW.trod_array ht h
  rw [hc.2] at hcs
  match xs, hl, cs, hcs with
  | [y0, y1, y2], _, [c0, c1, c2], _ =>
    have h0 := hf 0 (by omega)
    have h1 := hf 1 (by omega)
    have h2 := hf 2 (by omega)
    rw [hc.1] at h0 h1 h2
    obtain ⟨a0, e0, _, w0⟩ := DataW.trod_int he (x := y0) (by simpa using h0)
    obtain ⟨a1, e1, _, w1⟩ := DataW.trod_int he (x := y1) (by simpa using h1)
    obtain ⟨a2, e2, _, w2⟩ := DataW.trod_int he (x := y2) (by simpa using h2)
    simp only [List.cons.injEq, and_true] at e0 e1 e2
    subst e0 e1 e2
    exact ⟨(a0, a1, a2), rfl, bounds_i64 w0, bounds_i64 w1, bounds_i64 w2⟩
def InF (f : Fd) : Prop := In64 f.1 ∧ In64 f.2.2.1 ∧ In64 f.2.2.2
theorem elem_fd {P : Program} {t : TypeId} {f0 f1 f2 f3 : Field} (ht : P.underlying t = some (.struct #[f0, f1, f2, f3])) (h0 : P.underlying f0.type = some (.int .i64)) (h1 : P.underlying f1.type = some .bool) (h2 : P.underlying f2.type = some (.int .i64)) (h3 : P.underlying f3.type = some (.int .i64))
    (hc : P.cellsOf t = 4 ∧ (P.cellsOf f0.type = 1 ∧ P.cellsOf f1.type = 1 ∧ P.cellsOf f2.type = 1 ∧ P.cellsOf f3.type = 1) ∧ f0.offset = 0 ∧ f1.offset = 1 ∧ f2.offset = 2 ∧ f3.offset = 3) : ElemG fdL InF P t := by
  intro H ec W n cs y h
  obtain ⟨xs, m, _, _, hcs, hl, hf⟩ := DataW.trod_struct ht h
  obtain ⟨k, ⟨k0, k1, k2, k3⟩, o0, o1, o2, o3⟩ := hc
  rw [k] at hcs
  match xs, hl, cs, hcs with
  | [y0, y1, y2, y3], _, [c0, c1, c2, c3], _ =>
    have g0 := hf 0 f0 rfl
    have g1 := hf 1 f1 rfl
    have g2 := hf 2 f2 rfl
    have g3 := hf 3 f3 rfl
    rw [k0, o0] at g0
    rw [k1, o1] at g1
    rw [k2, o2] at g2
    rw [k3, o3] at g3
    obtain ⟨a0, e0, _, w0⟩ := DataW.trod_int h0 (x := y0) (by simpa using g0)
    obtain ⟨a1, e1, _⟩ := DataW.trod_bool h1 (x := y1) (by simpa using g1)
    obtain ⟨a2, e2, _, w2⟩ := DataW.trod_int h2 (x := y2) (by simpa using g2)
    obtain ⟨a3, e3, _, w3⟩ := DataW.trod_int h3 (x := y3) (by simpa using g3)
    simp only [List.cons.injEq, and_true] at e0 e1 e2 e3
    subst e0 e1 e2 e3
    exact ⟨(a0, a1, a2, a3), rfl, bounds_i64 w0, bounds_i64 w2, bounds_i64 w3⟩
/-- A slice whose elements are known, opened. -/
theorem open_flatG {α : Type} {enc : α → List Value} {Good : α → Prop} {H : Type} {ec : TypeId × Value → H} {P : Program} {W : World} {t e : TypeId} {K n : Nat} {cs : List Value} {x : DataW H × List MemPlace} (hk : ∀ x, (enc x).length = K) (ht : P.underlying t = some (.slice e)) (hK : P.cellsOf e = K) (h0 : 0 < K) (he : ElemG enc Good P e)
    (h : DataW.trod ec P W 0 (fun _ => true) true n t cs = some x) :
    ∃ (A : Option Addr) (cap : Nat) (l : List α), cs = [.slice A l.length cap] ∧ (l.length ≤ 9223372036854775807 ∧ l.length ≤ cap) ∧ (∀ y ∈ l, Good y) ∧ Cells W W.heap.size A K (l.map fun y => (enc y).toArray) := by
  rcases open_slice ht h with ⟨rfl, _⟩ | ⟨a, len, cap, m, k, D, Pl, rfl, hb, hl, hm, hmm, _, hx⟩
  · exact ⟨none, 0, [], rfl, ⟨by simp, by simp⟩, fun y hy => (by cases hy), .inl rfl⟩
  · simp only [if_true] at hmm
    have hz : ∀ i, i < len → ∃ y, Good y ∧ ∀ j, j < K → W.cell? (a.add (i * K + j)) = (enc y)[j]? := by
      intro i hi
      obtain ⟨cs', h1, h2⟩ := hx i (by omega)
      obtain ⟨y, rfl, h4⟩ := he H ec W k cs' _ h2
      obtain ⟨_, _, h5⟩ := World.cells?_some h1
      refine ⟨y, h4, fun j hj => ?_⟩
      have := h5 j (by rw [hK]; exact hj)
      rw [hK, Deep.add_add] at this
      exact this
    rcases Nat.eq_zero_or_pos len with hl0 | hl0
    · subst hl0
      exact ⟨some a, cap, [], rfl, ⟨by simp, by simp⟩, fun y hy => (by cases hy), .inl rfl⟩
    · obtain ⟨y0, _, c0⟩ := hz 0 hl0
      have hz' : ∀ i, ∃ y, i < len → Good y ∧ ∀ j, j < K → W.cell? (a.add (i * K + j)) = (enc y)[j]? := by
        intro i
        by_cases hi : i < len
        · obtain ⟨y, q⟩ := hz i hi
          exact ⟨y, fun _ => q⟩
        · exact ⟨y0, fun h => absurd h hi⟩
      obtain ⟨b, o, spot⟩ := a
      have hg : ∃ v, W.cell? ((⟨b, o, spot⟩ : Addr).add (0 * K + 0)) = some v := by
        rw [c0 0 h0, List.getElem?_eq_getElem (by rw [hk]; exact h0)]
        exact ⟨_, rfl⟩
      obtain ⟨v, hv⟩ := hg
      have hspot : spot = none := by simpa [Addr.add] using World.cell?_spot hv
      subst hspot
      have hblk : b < W.heap.size := by simpa [Addr.add] using World.block_lt_of_cell? _ _ hv
      refine ⟨some ⟨b, o, none⟩, cap, (List.range len).map fun i => (hz' i).choose, by simp, ⟨by unfold maxLen at hm; simp; omega, by simp; omega⟩, fun y hy => ?_, .inr ⟨b, o, rfl, hblk, fun i C hC j u hu => ?_⟩⟩
      · obtain ⟨i, hi, rfl⟩ := List.mem_map.1 hy
        exact ((hz' i).choose_spec (List.mem_range.1 hi)).1
      · rw [List.map_map, List.getElem?_map] at hC
        have hi : i < len := by
          rcases Nat.lt_or_ge i len with q | q
          · exact q
          · rw [List.getElem?_eq_none (by simpa using q)] at hC; cases hC
        rw [List.getElem?_range hi] at hC
        cases hC
        have hu' : (enc (hz' i).choose)[j]? = some u := by simpa using hu
        have hj : j < K := by rw [← hk (hz' i).choose]; exact (List.getElem?_eq_some_iff.1 hu').1
        have := ((hz' i).choose_spec hi).2 j hj
        rw [hu'] at this
        rw [← this]
        unfold Addr.add
        split
        · rename_i h; rw [Nat.add_assoc, h]; rfl
        · rw [Nat.add_assoc]
theorem six_elem : ElemG sixL In6 Try.prog 74 := elem_six Try.underlying74 Try.underlying3 ⟨by kernel_rfl, by kernel_rfl⟩
theorem tri_elem : ElemG triL In3 Try.prog 77 := elem_tri Try.underlying77 Try.underlying3 ⟨by kernel_rfl, by kernel_rfl⟩
theorem fd_elem : ElemG fdL InF Try.prog 63 := elem_fd Try.underlying63 (by kernel_rfl) (by kernel_rfl) (by kernel_rfl) (by kernel_rfl) ⟨by kernel_rfl, ⟨by kernel_rfl, by kernel_rfl, by kernel_rfl, by kernel_rfl⟩, rfl, rfl, rfl, rfl⟩
section
variable {H : Type} {enc : TypeId × Value → H} {W : World} {base : Nat} {v : Value} {d : DataW H} {p : List MemPlace}
set_option maxRecDepth 100000 in
/-- The numbers that determine rules, opened. -/
theorem open_numbers (hv : Value.okWide Try.prog W .any base 25 v) (h : DataW.Trod enc Try.prog W 0 (fun _ => true) true 25 v d p) :
    ∃ (C : List Six) (CA : Option Addr) (cc : Nat) (R : List Tri) (RA : Option Addr) (rc : Nat) (F : List Six) (FA : Option Addr) (fc : Nat), v = bkA CA C.length cc RA R.length rc FA F.length fc ∧ (∀ y ∈ C, In6 y) ∧ (∀ y ∈ R, In3 y) ∧ (∀ y ∈ F, In6 y) ∧ C.length ≤ 9223372036854775807 ∧ R.length ≤ 9223372036854775807 ∧ F.length ≤ 9223372036854775807 ∧
      Cells W W.heap.size CA 6 (C.map fun y => (sixL y).toArray) ∧ Cells W W.heap.size RA 3 (R.map fun y => (triL y).toArray) ∧ Cells W W.heap.size FA 6 (F.map fun y => (sixL y).toArray) := by
  obtain ⟨v0, v1, v2, y0, y1, y2, n, rfl, _, _, h0, h1, h2⟩ := open_agg3 Try.underlying25 (by kernel_rfl) (by kernel_rfl) hv h
  obtain ⟨CA, cc, C, hcs1, hl1, g1, k1⟩ := open_flatG sixL_len Try.underlying22 (by kernel_rfl) (by omega) six_elem h0
  obtain ⟨RA, rc, R, hcs2, hl2, g2, k2⟩ := open_flatG triL_len Try.underlying23 (by kernel_rfl) (by omega) tri_elem h1
  obtain ⟨FA, fc, F, hcs3, hl3, g3, k3⟩ := open_flatG sixL_len Try.underlying22 (by kernel_rfl) (by omega) six_elem h2
  simp only [List.cons.injEq, and_true] at hcs1 hcs2 hcs3
  subst hcs1 hcs2 hcs3
  exact ⟨C, CA, cc, R, RA, rc, F, FA, fc, rfl, g1, g2, g3, hl1.1, hl2.1, hl3.1, k1, k2, k3⟩
set_option maxRecDepth 100000 in
/-- Findings, opened. -/
theorem open_fds (hv : Value.okWide Try.prog W .any base 28 v) (h : DataW.Trod enc Try.prog W 0 (fun _ => true) true 28 v d p) :
    ∃ (A : Option Addr) (cap : Nat) (l : List Fd), v = .slice A l.length cap ∧ FdsC W A l ∧ l.length ≤ 9223372036854775807 ∧ l.length ≤ cap := by
  obtain ⟨a, len, cap, rfl⟩ := okWide_slice Try.underlying28 hv
  obtain ⟨fuel, hf⟩ := h
  obtain ⟨A, c, l, hcs, hl, _, k⟩ := open_flatG fdL_len Try.underlying28 (by kernel_rfl) (by omega) fd_elem hf
  simp [Value.cells] at hcs
  obtain ⟨rfl, rfl, rfl⟩ := hcs
  refine ⟨_, _, l, rfl, fun i x hx => ?_, hl.1, hl.2⟩
  obtain ⟨b, o, hA, hB, cc⟩ := k.get (i := i) (C := (fdL x).toArray) (by rw [List.getElem?_map, hx]; rfl)
  exact ⟨b, o, hA, hB, cc 0 _ rfl, cc 1 _ rfl, cc 2 _ rfl, cc 3 _ rfl⟩
end

namespace Frame
/-- A world for the witnesses. -/
noncomputable def laidWorld (os : Os) : World := World.holding Try.prog os ⟨#[], #[], []⟩
end Frame
end Go.Proofs.Ytiglkecmamnphaa
