/- What every closing text of this seat shares: arguments opened, arguments that read as before, the witness's world. -/
import Derived.Test.YtghcffpcblficaaRows
import Derived.Test.YtghcffpcblficaaSn
import Derived.Test.YtghcffpcblficaaAg
import Derived.Lib.SmallJoins
import Derived.SliceStrings
import Derived.ProofKit
import Derived.OpenShut
import Derived.ChangeOld
import Derived.Carry
import Derived.Deep.DeepHandedRow
import Derived.Deep.Slices
import Derived.Deep.Strs
namespace Go.Proofs.Ytghcffpcblficaa
open Go.ChangeShapes Go.WideShapes Go.ChangeAt Go.RowKit Go.Joins Go.Deep

theorem own : ownKnob Try.prog.godebug = none := by kernel_rfl
theorem laidOut : laidOutB Try.prog = true := by kernel_rfl
/-- Arguments read behind the call as before it. -/
theorem trodAll_below {H : Type} {enc : TypeId × Value → H} {P : Program} (hl : laidOutB P = true) {W W' : World} :
    ∀ {ts : List TypeId} {vs : List Value} {ds : List (DataW H)} {p : List MemPlace}, DataW.TrodAll enc P W 0 (fun _ => true) true ts vs ds p → Below W.heap.size W W' → (∀ x ∈ p, x.block < W.heap.size) →
      (∀ t ∈ ts, P.readableRec t = true ∧ t < P.types.size) → DataW.TrodAll enc P W' 0 (fun b => decide (b < W.heap.size)) true ts vs ds p
  | [], vs, ds, p, h, _, _, _ => by
    obtain ⟨rfl, rfl, rfl⟩ := trodAll_nil h
    exact trodAll_mk0
  | t :: ts, vs, ds, p, h, hb, hlt, hr => by
    obtain ⟨v, vs', d, ds', q, r, rfl, rfl, rfl, h1, h2⟩ := trodAll_cons h
    have ht := hr t (by simp)
    exact trodAll_cons_mk (Below.trod hl ht.1 ht.2 h1 hb (fun x hx => hlt x (by simp [hx]))) (trodAll_below hl h2 hb (fun x hx => hlt x (by simp [hx])) (fun t' h' => hr t' (by simp [h'])))
theorem cap_of {H : Type} {enc : TypeId × Value → H} {P : Program} {W : World} {t e : TypeId} {n len cap : Nat} {A : Option Addr} {x : DataW H × List MemPlace} (ht : P.underlying t = some (.slice e))
    (h : DataW.trod enc P W 0 (fun _ => true) true n t [.slice A len cap] = some x) : len ≤ cap ∧ cap ≤ 9223372036854775807 := by
  rcases open_slice ht h with ⟨hc, _⟩ | ⟨a, l, c, m, k, D, Pl, hc, hb, hl, hm, _⟩
  · cases hc; omega
  · cases hc; unfold maxLen at hm; omega

/-- What an element's cells are. -/
def ElemG {α : Type} (enc : α → List Value) (Good : World → α → Prop) (P : Program) (e : TypeId) : Prop := ∀ (H : Type) (ec : TypeId × Value → H) (W : World) (n : Nat) (cs : List Value) (y : DataW H × List MemPlace), DataW.trod ec P W 0 (fun _ => true) true n e cs = some y → ∃ x, cs = enc x ∧ Good W x
def b1 (x : Bool) : List Value := [.bool x]
theorem elem_int {P : Program} {e : TypeId} (he : P.underlying e = some (.int .i64)) : ElemG i1 (fun _ x => In64 x) P e := by
  intro H ec W n cs y h
  obtain ⟨a, e0, _, w0⟩ := DataW.trod_int he h
  exact ⟨a, e0, bounds_i64 w0⟩
theorem elem_bool {P : Program} {e : TypeId} (he : P.underlying e = some .bool) : ElemG b1 (fun _ _ => True) P e := by
  intro H ec W n cs y h
  obtain ⟨a, e0, _⟩ := DataW.trod_bool he h
  exact ⟨a, e0, trivial⟩
theorem elem_wp {P : Program} {t : TypeId} {f0 f1 f2 : Field} (ht : P.underlying t = some (.struct #[f0, f1, f2])) (h0 : P.underlying f0.type = some (.int .i64)) (h1 : P.underlying f1.type = some .string) (h2 : P.underlying f2.type = some .bool)
    (hc : P.cellsOf t = 3 ∧ (P.cellsOf f0.type = 1 ∧ P.cellsOf f1.type = 1 ∧ P.cellsOf f2.type = 1) ∧ f0.offset = 0 ∧ f1.offset = 1 ∧ f2.offset = 2) : ElemG wpL (fun _ x => GoodW x) P t := by
  intro H ec W n cs y h
  obtain ⟨xs, m, _, _, hcs, hl, hf⟩ := DataW.trod_struct ht h
  obtain ⟨k, ⟨k0, k1, k2⟩, o0, o1, o2⟩ := hc
  rw [k] at hcs
  match xs, hl, cs, hcs with
  | [y0, y1, y2], _, [c0, c1, c2], _ =>
    have g0 := hf 0 f0 rfl
    have g1 := hf 1 f1 rfl
    have g2 := hf 2 f2 rfl
    rw [k0, o0] at g0
    rw [k1, o1] at g1
    rw [k2, o2] at g2
    obtain ⟨a0, e0, _, w0⟩ := DataW.trod_int h0 (x := y0) (by simpa using g0)
    obtain ⟨a1, e1, _, w1⟩ := DataW.trod_string h1 (x := y1) (by simpa using g1)
    obtain ⟨a2, e2, _⟩ := DataW.trod_bool h2 (x := y2) (by simpa using g2)
    simp only [List.cons.injEq, and_true] at e0 e1 e2
    subst e0 e1 e2
    exact ⟨(a0, a1, a2), rfl, bounds_i64 w0, w1⟩
/-- A slice whose elements are known, opened. -/
theorem open_flatG {α : Type} {enc : α → List Value} {Good : World → α → Prop} {H : Type} {ec : TypeId × Value → H} {P : Program} {W : World} {t e : TypeId} {K n : Nat} {cs : List Value} {x : DataW H × List MemPlace} (hk : ∀ x, (enc x).length = K) (ht : P.underlying t = some (.slice e)) (hK : P.cellsOf e = K) (h0 : 0 < K) (he : ElemG enc Good P e)
    (h : DataW.trod ec P W 0 (fun _ => true) true n t cs = some x) :
    ∃ (A : Option Addr) (cap : Nat) (l : List α), cs = [.slice A l.length cap] ∧ (l.length ≤ 9223372036854775807 ∧ l.length ≤ cap) ∧ (∀ y ∈ l, Good W y) ∧ Cells W W.heap.size A K (l.map fun y => (enc y).toArray) := by
  rcases open_slice ht h with ⟨rfl, _⟩ | ⟨a, len, cap, m, k, D, Pl, rfl, hb, hl, hm, hmm, _, hx⟩
  · exact ⟨none, 0, [], rfl, ⟨by simp, by simp⟩, fun y hy => (by cases hy), .inl rfl⟩
  · simp only [if_true] at hmm
    have hz : ∀ i, i < len → ∃ y, Good W y ∧ ∀ j, j < K → W.cell? (a.add (i * K + j)) = (enc y)[j]? := by
      intro i hi
      obtain ⟨cs', h1, h2⟩ := hx i (by omega)
      obtain ⟨y, rfl, h4⟩ := he H ec W k cs' _ h2
      obtain ⟨_, _, h5⟩ := World.cells?_some h1
      refine ⟨y, h4, fun j hj => ?_⟩
      have := h5 j (by rw [hK]; exact hj)
      rw [hK, Deep.add_add] at this
      exact this
    rcases Nat.eq_zero_or_pos len with hl0 | hl0
    · subst hl0
      exact ⟨some a, cap, [], rfl, ⟨by simp, by simp⟩, fun y hy => (by cases hy), .inl rfl⟩
    · obtain ⟨y0, _, c0⟩ := hz 0 hl0
      have hz' : ∀ i, ∃ y, i < len → Good W y ∧ ∀ j, j < K → W.cell? (a.add (i * K + j)) = (enc y)[j]? := by
        intro i
        by_cases hi : i < len
        · obtain ⟨y, q⟩ := hz i hi
          exact ⟨y, fun _ => q⟩
        · exact ⟨y0, fun h => absurd h hi⟩
      obtain ⟨b, o, spot⟩ := a
      have hg : ∃ v, W.cell? ((⟨b, o, spot⟩ : Addr).add (0 * K + 0)) = some v := by
        rw [c0 0 h0, List.getElem?_eq_getElem (by rw [hk]; exact h0)]
        exact ⟨_, rfl⟩
      obtain ⟨v, hv⟩ := hg
      have hspot : spot = none := by simpa [Addr.add] using World.cell?_spot hv
      subst hspot
      have hblk : b < W.heap.size := by simpa [Addr.add] using World.block_lt_of_cell? _ _ hv
      refine ⟨some ⟨b, o, none⟩, cap, (List.range len).map fun i => (hz' i).choose, by simp, ⟨by unfold maxLen at hm; simp; omega, by simp; omega⟩, fun y hy => ?_, .inr ⟨b, o, rfl, hblk, fun i C hC j u hu => ?_⟩⟩
      · obtain ⟨i, hi, rfl⟩ := List.mem_map.1 hy
        exact ((hz' i).choose_spec (List.mem_range.1 hi)).1
      · rw [List.map_map, List.getElem?_map] at hC
        have hi : i < len := by
          rcases Nat.lt_or_ge i len with q | q
          · exact q
          · rw [List.getElem?_eq_none (by simpa using q)] at hC; cases hC
        rw [List.getElem?_range hi] at hC
        cases hC
        have hu' : (enc (hz' i).choose)[j]? = some u := by simpa using hu
        have hj : j < K := by rw [← hk (hz' i).choose]; exact (List.getElem?_eq_some_iff.1 hu').1
        have := ((hz' i).choose_spec hi).2 j hj
        rw [hu'] at this
        rw [← this]
        unfold Addr.add
        split
        · rename_i h; rw [Nat.add_assoc, h]; rfl
        · rw [Nat.add_assoc]
theorem wp_elem : ElemG wpL (fun _ x => GoodW x) Try.prog 53 := elem_wp Try.underlying53 (by kernel_rfl) (by kernel_rfl) (by kernel_rfl) ⟨by kernel_rfl, ⟨by kernel_rfl, by kernel_rfl, by kernel_rfl⟩, rfl, rfl, rfl⟩
section
variable {H : Type} {enc : TypeId × Value → H} {W : World} {base : Nat} {v : Value} {d : DataW H} {p : List MemPlace}
set_option maxRecDepth 100000 in
/-- Writes, opened. -/
theorem open_wps (hv : Value.okWide Try.prog W .any base 51 v) (h : DataW.Trod enc Try.prog W 0 (fun _ => true) true 51 v d p) :
    ∃ (A : Option Addr) (cap : Nat) (l : List Wp), v = .slice A l.length cap ∧ WpsC W A l ∧ (∀ y ∈ l, GoodW y) ∧ l.length ≤ 9223372036854775807 := by
  obtain ⟨a, len, cap, rfl⟩ := okWide_slice Try.underlying51 hv
  obtain ⟨fuel, hf⟩ := h
  obtain ⟨A, c, l, hcs, hl, g, k⟩ := open_flatG (K := 3) wpL_len Try.underlying51 (by kernel_rfl) (by omega) wp_elem hf
  simp [Value.cells] at hcs
  obtain ⟨rfl, rfl, rfl⟩ := hcs
  exact ⟨_, _, l, rfl, k, g, hl.1⟩
set_option maxRecDepth 100000 in
theorem open_bools (hv : Value.okWide Try.prog W .any base 58 v) (h : DataW.Trod enc Try.prog W 0 (fun _ => true) true 58 v d p) :
    ∃ (A : Option Addr) (cap : Nat) (l : List Bool), v = .slice A l.length cap ∧ Cells W W.heap.size A 1 (l.map fun y => (b1 y).toArray) ∧ l.length ≤ 9223372036854775807 := by
  obtain ⟨a, len, cap, rfl⟩ := okWide_slice Try.underlying58 hv
  obtain ⟨fuel, hf⟩ := h
  obtain ⟨A, c, l, hcs, hl, _, k⟩ := open_flatG (K := 1) (enc := b1) (fun _ => rfl) Try.underlying58 (by kernel_rfl) (by omega) (elem_bool Try.underlying4) hf
  simp [Value.cells] at hcs
  obtain ⟨rfl, rfl, rfl⟩ := hcs
  exact ⟨_, _, l, rfl, k, hl.1⟩
theorem nums_of {W : World} {B : Nat} {A : Option Addr} {l : List Int} (h : Cells W B A 1 (l.map fun y => (i1 y).toArray)) : Nums W B A l := by
  rcases h with h | ⟨b, o, hA, hB, hc⟩
  · exact .inl (by simpa using h)
  · refine .inr ⟨b, o, hA, hB, fun i r hr => ?_⟩
    have := hc i (i1 r).toArray (by rw [List.getElem?_map, hr]; rfl) 0 (.int .i64 r) rfl
    rwa [show o + i * 1 + 0 = o + i by omega] at this
set_option maxRecDepth 100000 in
theorem open_nums2 {P : Program} {t e : TypeId} (ht : P.underlying t = some (.slice e)) (he : P.underlying e = some (.int .i64)) (hK : P.cellsOf e = 1) (hv : Value.okWide P W .any base t v) (h : DataW.Trod enc P W 0 (fun _ => true) true t v d p) :
    ∃ (A : Option Addr) (cap : Nat) (l : List Int), v = .slice A l.length cap ∧ Nums W W.heap.size A l ∧ (∀ r ∈ l, In64 r) ∧ (l.length ≤ cap ∧ cap ≤ 9223372036854775807) := by
  obtain ⟨a, len, cap, rfl⟩ := okWide_slice ht hv
  obtain ⟨fuel, hf⟩ := h
  have hcap := cap_of ht hf
  obtain ⟨A, c, l, hcs, hl, g, k⟩ := open_flatG (K := 1) (enc := i1) (fun _ => rfl) ht hK (by omega) (elem_int he) hf
  simp [Value.cells] at hcs
  obtain ⟨rfl, rfl, rfl⟩ := hcs
  exact ⟨_, _, l, rfl, nums_of k, g, hcap⟩
end

namespace Frame
/-- A world for the witnesses. -/
noncomputable def laidWorld (os : Os) : World := World.holding Try.prog os ⟨#[], #[], []⟩
end Frame
end Go.Proofs.Ytghcffpcblficaa
