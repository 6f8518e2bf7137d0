/- What every closing text of this seat shares: arguments opened, arguments that read as before, the witness's world. -/
import Derived.Test.YtkeimfkaoianmaaRows
import Derived.Test.YtkeimfkaoianmaaAux
import Derived.Lib.SmallJoins
import Derived.SliceStrings
import Derived.ProofKit
import Derived.OpenShut
import Derived.ChangeOld
import Derived.Carry
import Derived.Deep.DeepHandedRow
import Derived.Deep.Slices
import Derived.Deep.Strs
namespace Go.Proofs.Ytkeimfkaoianmaa
open Go.ChangeShapes Go.WideShapes Go.ChangeAt Go.RowKit Go.Joins Go.Deep

theorem own : ownKnob Try.prog.godebug = none := by kernel_rfl
theorem laidOut : laidOutB Try.prog = true := by kernel_rfl
/-- Arguments read behind the call as before it. -/
theorem trodAll_below {H : Type} {enc : TypeId × Value → H} {P : Program} (hl : laidOutB P = true) {W W' : World} :
    ∀ {ts : List TypeId} {vs : List Value} {ds : List (DataW H)} {p : List MemPlace}, DataW.TrodAll enc P W 0 (fun _ => true) true ts vs ds p → Below W.heap.size W W' → (∀ x ∈ p, x.block < W.heap.size) →
      (∀ t ∈ ts, P.readableRec t = true ∧ t < P.types.size) → DataW.TrodAll enc P W' 0 (fun b => decide (b < W.heap.size)) true ts vs ds p
  | [], vs, ds, p, h, _, _, _ => by
    obtain ⟨rfl, rfl, rfl⟩ := trodAll_nil h
    exact trodAll_mk0
  | t :: ts, vs, ds, p, h, hb, hlt, hr => by
    obtain ⟨v, vs', d, ds', q, r, rfl, rfl, rfl, h1, h2⟩ := trodAll_cons h
    have ht := hr t (by simp)
    exact trodAll_cons_mk (Below.trod hl ht.1 ht.2 h1 hb (fun x hx => hlt x (by simp [hx]))) (trodAll_below hl h2 hb (fun x hx => hlt x (by simp [hx])) (fun t' h' => hr t' (by simp [h'])))
theorem okWide_array {P : Program} {w : World} {r : Reach} {base : Nat} {t e : TypeId} {n : Nat} {v : Value} (ht : P.underlying t = some (.array n e)) (h : Value.okWide P w r base t v) : ∃ cs, v = .agg cs ∧ cs.size = P.cellsOf t := by
  simp only [Value.okWide, ht] at h
  obtain ⟨cs, h1, h2, _⟩ := h
  exact ⟨cs, h1, h2⟩
/-- An array of two integers, opened. -/
theorem open_int2 {H : Type} {enc : TypeId × Value → H} {P : Program} {W : World} {base : Nat} {t e : TypeId} {v : Value} {d : DataW H} {p : List MemPlace} (ht : P.underlying t = some (.array 2 e))
    (he : P.underlying e = some (.int .i64)) (hc1 : P.cellsOf e = 1) (hc2 : P.cellsOf t = 2) (hv : Value.okWide P W .any base t v) (h : DataW.Trod enc P W 0 (fun _ => true) true t v d p) :
    ∃ a b : Int, v = .agg #[.int .i64 a, .int .i64 b] ∧ (-9223372036854775808 ≤ a ∧ a ≤ 9223372036854775807) ∧ (-9223372036854775808 ≤ b ∧ b ≤ 9223372036854775807) := by
  obtain ⟨cs, rfl, hsz⟩ := okWide_array ht hv
  rw [hc2] at hsz
  obtain ⟨c0, c1, rfl⟩ := array2 hsz
  obtain ⟨fuel, hf⟩ := h
  obtain ⟨xs, m, _, _, _, hl, hf⟩ := DataW.trod_array ht hf
  match xs, hl with
  | [y0, y1], _ =>
    have h0 := hf 0 (by omega)
    have h1 := hf 1 (by omega)
    rw [hc1] at h0 h1
    obtain ⟨a, e0, _, w0⟩ := DataW.trod_int he (x := y0) (by simpa [Value.cells] using h0)
    obtain ⟨b, e1, _, w1⟩ := DataW.trod_int he (x := y1) (by simpa [Value.cells] using h1)
    simp only [List.cons.injEq, and_true] at e0 e1
    subst e0 e1
    exact ⟨a, b, rfl, bounds_i64 w0, bounds_i64 w1⟩

/-- What an element's cells are: K integers. -/
def Elem (P : Program) (e : TypeId) (K : Nat) : Prop := ∀ (H : Type) (enc : TypeId × Value → H) (W : World) (n : Nat) (cs : List Value) (y : DataW H × List MemPlace), DataW.trod enc P W 0 (fun _ => true) true n e cs = some y →
  ∃ zs : List Int, cs = zs.map (Value.int .i64) ∧ zs.length = K ∧ ∀ z ∈ zs, In64 z
theorem elem_int {P : Program} {e : TypeId} (he : P.underlying e = some (.int .i64)) : Elem P e 1 := by
  intro H enc W n cs y h
  obtain ⟨a, e0, _, w0⟩ := DataW.trod_int he h
  exact ⟨[a], e0, rfl, by simpa using bounds_i64 w0⟩
theorem elem_arr {P : Program} {t e : TypeId} (ht : P.underlying t = some (.array 3 e)) (he : P.underlying e = some (.int .i64)) (hc : P.cellsOf e = 1 ∧ P.cellsOf t = 3) : Elem P t 3 := by
  intro H enc W n cs y h
  obtain ⟨xs, m, _, _, hcs, hl, hf⟩ := DataW.trod_array ht h
  rw [hc.2] at hcs
  match xs, hl, cs, hcs with
  | [y0, y1, y2], _, [c0, c1, c2], _ =>
    have h0 := hf 0 (by omega)
    have h1 := hf 1 (by omega)
    have h2 := hf 2 (by omega)
    rw [hc.1] at h0 h1 h2
    obtain ⟨a, e0, _, w0⟩ := DataW.trod_int he (x := y0) (by simpa using h0)
    obtain ⟨b, e1, _, w1⟩ := DataW.trod_int he (x := y1) (by simpa using h1)
    obtain ⟨c, e2, _, w2⟩ := DataW.trod_int he (x := y2) (by simpa using h2)
    simp only [List.cons.injEq, and_true] at e0 e1 e2
    subst e0 e1 e2
    have b0 := bounds_i64 w0
    have b1 := bounds_i64 w1
    have b2 := bounds_i64 w2
    exact ⟨[a, b, c], rfl, rfl, fun z hz => by simp at hz; rcases hz with rfl | rfl | rfl <;> assumption⟩
theorem elem_three {P : Program} {t : TypeId} {f0 f1 f2 : Field} (ht : P.underlying t = some (.struct #[f0, f1, f2])) (h0 : P.underlying f0.type = some (.int .i64)) (h1 : P.underlying f1.type = some (.int .i64)) (h2 : P.underlying f2.type = some (.int .i64))
    (hc : P.cellsOf t = 3 ∧ P.cellsOf f0.type = 1 ∧ P.cellsOf f1.type = 1 ∧ P.cellsOf f2.type = 1 ∧ f0.offset = 0 ∧ f1.offset = 1 ∧ f2.offset = 2) : Elem P t 3 := by
  intro H enc W n cs y h
  obtain ⟨y0, y1, y2, m, _, hcs, g0, g1, g2⟩ := trod_struct3 ht h
  obtain ⟨k, k0, k1, k2, o0, o1, o2⟩ := hc
  rw [k] at hcs
  rw [k0, o0] at g0
  rw [k1, o1] at g1
  rw [k2, o2] at g2
  match cs, hcs with
  | [c0, c1, c2], _ =>
    obtain ⟨a, e0, _, w0⟩ := DataW.trod_int h0 (x := y0) (by simpa using g0)
    obtain ⟨b, e1, _, w1⟩ := DataW.trod_int h1 (x := y1) (by simpa using g1)
    obtain ⟨c, e2, _, w2⟩ := DataW.trod_int h2 (x := y2) (by simpa using g2)
    simp only [List.cons.injEq, and_true] at e0 e1 e2
    subst e0 e1 e2
    have b0 := bounds_i64 w0
    have b1 := bounds_i64 w1
    have b2 := bounds_i64 w2
    exact ⟨[a, b, c], rfl, rfl, fun z hz => by simp at hz; rcases hz with rfl | rfl | rfl <;> assumption⟩
theorem elem_two {P : Program} {t : TypeId} {f0 f1 : Field} (ht : P.underlying t = some (.struct #[f0, f1])) (h0 : P.underlying f0.type = some (.int .i64)) (h1 : P.underlying f1.type = some (.int .i64))
    (hc : P.cellsOf t = 2 ∧ P.cellsOf f0.type = 1 ∧ P.cellsOf f1.type = 1 ∧ f0.offset = 0 ∧ f1.offset = 1) : Elem P t 2 := by
  intro H enc W n cs y h
  obtain ⟨y0, y1, m, _, hcs, g0, g1⟩ := trod_struct2 ht h
  obtain ⟨k, k0, k1, o0, o1⟩ := hc
  rw [k] at hcs
  rw [k0, o0] at g0
  rw [k1, o1] at g1
  match cs, hcs with
  | [c0, c1], _ =>
    obtain ⟨a, e0, _, w0⟩ := DataW.trod_int h0 (x := y0) (by simpa using g0)
    obtain ⟨b, e1, _, w1⟩ := DataW.trod_int h1 (x := y1) (by simpa using g1)
    simp only [List.cons.injEq, and_true] at e0 e1
    subst e0 e1
    have b0 := bounds_i64 w0
    have b1 := bounds_i64 w1
    exact ⟨[a, b], rfl, rfl, fun z hz => by simp at hz; rcases hz with rfl | rfl <;> assumption⟩

/-- A slice whose elements are K integers each, opened at its cells. -/
theorem open_flat {H : Type} {enc : TypeId × Value → H} {P : Program} {W : World} {t e : TypeId} {K n : Nat} {cs : List Value} {x : DataW H × List MemPlace} (ht : P.underlying t = some (.slice e)) (hK : P.cellsOf e = K) (h0 : 0 < K) (he : Elem P e K)
    (h : DataW.trod enc P W 0 (fun _ => true) true n t cs = some x) :
    ∃ (A : Option Addr) (len cap : Nat) (z : Nat → List Int), cs = [.slice A len cap] ∧ len ≤ 9223372036854775807 ∧ (∀ i, (z i).length = K ∧ ∀ y ∈ z i, In64 y) ∧
      (len = 0 ∨ ∃ b o : Nat, A = some ⟨b, o, none⟩ ∧ b < W.heap.size ∧ ∀ i j, i < len → j < K → W.cell? ⟨b, o + i * K + j, none⟩ = ((z i)[j]?).map (Value.int .i64)) := by
  rcases open_slice ht h with ⟨rfl, _⟩ | ⟨a, len, cap, m, k, D, Pl, rfl, hb, hl, hm, hmm, _, hx⟩
  · exact ⟨none, 0, 0, fun _ => List.replicate K 0, rfl, by omega, fun i => ⟨by simp, fun y hy => by rw [List.mem_replicate] at hy; obtain ⟨_, rfl⟩ := hy; exact ⟨by omega, by omega⟩⟩, .inl rfl⟩
  · simp only [if_true] at hmm
    have hz : ∀ i, i < len → ∃ zs : List Int, zs.length = K ∧ (∀ y ∈ zs, In64 y) ∧ ∀ j, j < K → W.cell? (a.add (i * K + j)) = (zs[j]?).map (Value.int .i64) := by
      intro i hi
      obtain ⟨cs', h1, h2⟩ := hx i (by omega)
      obtain ⟨zs, rfl, h3, h4⟩ := he H enc W k cs' _ h2
      obtain ⟨_, _, h5⟩ := World.cells?_some h1
      refine ⟨zs, h3, h4, fun j hj => ?_⟩
      have := h5 j (by rw [hK]; exact hj)
      rw [hK, Deep.add_add] at this
      rw [this, List.getElem?_map]
    have hz' : ∀ i, ∃ zs : List Int, zs.length = K ∧ (∀ y ∈ zs, In64 y) ∧ (i < len → ∀ j, j < K → W.cell? (a.add (i * K + j)) = (zs[j]?).map (Value.int .i64)) := by
      intro i
      by_cases hi : i < len
      · obtain ⟨zs, q1, q2, q3⟩ := hz i hi
        exact ⟨zs, q1, q2, fun _ => q3⟩
      · exact ⟨List.replicate K 0, by simp, fun y hy => by rw [List.mem_replicate] at hy; obtain ⟨_, rfl⟩ := hy; exact ⟨by omega, by omega⟩, fun h => absurd h hi⟩
    refine ⟨some a, len, cap, fun i => (hz' i).choose, rfl, by unfold maxLen at hm; omega, fun i => ⟨(hz' i).choose_spec.1, (hz' i).choose_spec.2.1⟩, ?_⟩
    rcases Nat.eq_zero_or_pos len with hl0 | hl0
    · exact .inl hl0
    · refine .inr ?_
      obtain ⟨b, o, spot⟩ := a
      have g0 := (hz' 0).choose_spec.2.2 hl0 0 h0
      have hg : ∃ v, W.cell? ((⟨b, o, spot⟩ : Addr).add (0 * K + 0)) = some v := by
        rw [g0]
        have hl1 := (hz' 0).choose_spec.1
        rw [List.getElem?_eq_getElem (by omega)]
        exact ⟨_, rfl⟩
      obtain ⟨v, hv⟩ := hg
      have hspot : spot = none := by simpa [Addr.add] using World.cell?_spot hv
      subst hspot
      refine ⟨b, o, rfl, by simpa [Addr.add] using World.block_lt_of_cell? _ _ hv, fun i j hi hj => ?_⟩
      have := (hz' i).choose_spec.2.2 hi j hj
      rw [← this]
      unfold Addr.add
      split
      · rename_i h; rw [Nat.add_assoc, h]; rfl
      · rw [Nat.add_assoc]

theorem trips_of {W : World} {A : Option Addr} {len : Nat} {z : Nat → List Int} (h1 : ∀ i, (z i).length = 3 ∧ ∀ y ∈ z i, In64 y)
    (h2 : len = 0 ∨ ∃ b o : Nat, A = some ⟨b, o, none⟩ ∧ b < W.heap.size ∧ ∀ i j, i < len → j < 3 → W.cell? ⟨b, o + i * 3 + j, none⟩ = ((z i)[j]?).map (Value.int .i64)) :
    ∃ rs : List Rd, rs.length = len ∧ Rds W W.heap.size A rs ∧ ∀ r ∈ rs, In64 r.1 ∧ In64 r.2.1 ∧ In64 r.2.2 := by
  refine ⟨(List.range len).map (fun i => ((z i).getD 0 0, (z i).getD 1 0, (z i).getD 2 0)), by simp, ?_, fun r hr => ?_⟩
  · rcases h2 with rfl | ⟨b, o, hA, hb, hc⟩
    · exact .inl rfl
    · refine .inr ⟨b, o, hA, hb, fun i r hr => ?_⟩
      rw [List.getElem?_map] at hr
      have hi : i < len := by
        rcases Nat.lt_or_ge i len with h | h
        · exact h
        · rw [List.getElem?_eq_none (by simpa using h)] at hr; cases hr
      rw [List.getElem?_range hi] at hr
      cases hr
      have hl := (h1 i).1
      have c0 := hc i 0 hi (by omega)
      have c1 := hc i 1 hi (by omega)
      have c2 := hc i 2 hi (by omega)
      match hzi : z i, hl with
      | [a, b', c], _ =>
        rw [hzi] at c0 c1 c2
        dsimp only
        rw [hzi]
        exact ⟨c0, c1, c2⟩
  · obtain ⟨i, _, rfl⟩ := List.mem_map.1 hr
    have hl := (h1 i).1
    have hm := (h1 i).2
    match hzi : z i, hl with
    | [a, b', c], _ =>
      rw [hzi] at hm
      exact ⟨hm a (by simp), hm b' (by simp), hm c (by simp)⟩
theorem nums_of {W : World} {A : Option Addr} {len : Nat} {z : Nat → List Int} (h1 : ∀ i, (z i).length = 1 ∧ ∀ y ∈ z i, In64 y)
    (h2 : len = 0 ∨ ∃ b o : Nat, A = some ⟨b, o, none⟩ ∧ b < W.heap.size ∧ ∀ i j, i < len → j < 1 → W.cell? ⟨b, o + i * 1 + j, none⟩ = ((z i)[j]?).map (Value.int .i64)) :
    ∃ l : List Int, l.length = len ∧ Nums W W.heap.size A l ∧ ∀ r ∈ l, In64 r := by
  refine ⟨(List.range len).map (fun i => (z i).getD 0 0), by simp, ?_, fun r hr => ?_⟩
  · rcases h2 with rfl | ⟨b, o, hA, hb, hc⟩
    · exact .inl rfl
    · refine .inr ⟨b, o, hA, hb, fun i r hr => ?_⟩
      rw [List.getElem?_map] at hr
      have hi : i < len := by
        rcases Nat.lt_or_ge i len with h | h
        · exact h
        · rw [List.getElem?_eq_none (by simpa using h)] at hr; cases hr
      rw [List.getElem?_range hi] at hr
      cases hr
      have hl := (h1 i).1
      have c0 := hc i 0 hi (by omega)
      match hzi : z i, hl with
      | [a], _ =>
        rw [hzi] at c0
        dsimp only
        rw [hzi]
        simpa using c0
  · obtain ⟨i, _, rfl⟩ := List.mem_map.1 hr
    have hl := (h1 i).1
    have hm := (h1 i).2
    match hzi : z i, hl with
    | [a], _ =>
      rw [hzi] at hm
      exact hm a (by simp)
section
variable {H : Type} {enc : TypeId × Value → H} {W : World} {base : Nat} {v : Value} {d : DataW H} {p : List MemPlace}
theorem open_trips {P : Program} {t e : TypeId} (ht : P.underlying t = some (.slice e)) (hK : P.cellsOf e = 3) (he : Elem P e 3) (hv : Value.okWide P W .any base t v) (h : DataW.Trod enc P W 0 (fun _ => true) true t v d p) :
    ∃ (A : Option Addr) (cap : Nat) (rs : List Rd), v = .slice A rs.length cap ∧ Rds W W.heap.size A rs ∧ (∀ r ∈ rs, In64 r.1 ∧ In64 r.2.1 ∧ In64 r.2.2) ∧ rs.length ≤ 9223372036854775807 := by
  obtain ⟨a, len, cap, rfl⟩ := okWide_slice ht hv
  obtain ⟨fuel, hf⟩ := h
  obtain ⟨A, l, c, z, hcs, hl, h1, h2⟩ := open_flat ht hK (by omega) he hf
  simp [Value.cells] at hcs
  obtain ⟨rfl, rfl, rfl⟩ := hcs
  obtain ⟨rs, rfl, q1, q2⟩ := trips_of h1 h2
  exact ⟨_, _, rs, rfl, q1, q2, hl⟩
theorem open_nums {P : Program} {t e : TypeId} (ht : P.underlying t = some (.slice e)) (he : P.underlying e = some (.int .i64)) (hK : P.cellsOf e = 1) (hv : Value.okWide P W .any base t v) (h : DataW.Trod enc P W 0 (fun _ => true) true t v d p) :
    ∃ (A : Option Addr) (cap : Nat) (l : List Int), v = .slice A l.length cap ∧ Nums W W.heap.size A l ∧ (∀ r ∈ l, In64 r) ∧ l.length ≤ 9223372036854775807 := by
  obtain ⟨a, len, cap, rfl⟩ := okWide_slice ht hv
  obtain ⟨fuel, hf⟩ := h
  obtain ⟨A, l, c, z, hcs, hl, h1, h2⟩ := open_flat ht hK (by omega) (elem_int he) hf
  simp [Value.cells] at hcs
  obtain ⟨rfl, rfl, rfl⟩ := hcs
  obtain ⟨rs, rfl, q1, q2⟩ := nums_of h1 h2
  exact ⟨_, _, rs, rfl, q1, q2, hl⟩
theorem cap_of {H : Type} {enc : TypeId × Value → H} {P : Program} {W : World} {t e : TypeId} {n len cap : Nat} {A : Option Addr} {x : DataW H × List MemPlace} (ht : P.underlying t = some (.slice e))
    (h : DataW.trod enc P W 0 (fun _ => true) true n t [.slice A len cap] = some x) : len ≤ cap ∧ cap ≤ 9223372036854775807 := by
  rcases open_slice ht h with ⟨hc, _⟩ | ⟨a, l, c, m, k, D, Pl, hc, hb, hl, hm, _⟩
  · cases hc; omega
  · cases hc; unfold maxLen at hm; omega
theorem open_nums2 {P : Program} {t e : TypeId} (ht : P.underlying t = some (.slice e)) (he : P.underlying e = some (.int .i64)) (hK : P.cellsOf e = 1) (hv : Value.okWide P W .any base t v) (h : DataW.Trod enc P W 0 (fun _ => true) true t v d p) :
    ∃ (A : Option Addr) (cap : Nat) (l : List Int), v = .slice A l.length cap ∧ Nums W W.heap.size A l ∧ (∀ r ∈ l, In64 r) ∧ (l.length ≤ cap ∧ cap ≤ 9223372036854775807) := by
  obtain ⟨A, cap, l, rfl, h1, h2, _⟩ := open_nums ht he hK hv h
  obtain ⟨fuel, hf⟩ := h
  exact ⟨A, cap, l, rfl, h1, h2, cap_of ht hf⟩
theorem three_elem : Elem Try.prog 57 3 := elem_arr Try.underlying57 Try.underlying3 ⟨by kernel_rfl, by kernel_rfl⟩
/-- The numbers that determine bounds, opened. -/
theorem open_numbers (hv : Value.okWide Try.prog W .any base 25 v) (h : DataW.Trod enc Try.prog W 0 (fun _ => true) true 25 v d p) :
    ∃ (N : Int) (HA : Option Addr) (hc : Nat) (H : List Int) (BA : Option Addr) (bc : Nat) (BL : List Bn) (M : Int), v = nmV N HA H.length hc BA BL.length bc M ∧ Nums W W.heap.size HA H ∧ Rds W W.heap.size BA BL ∧ In64 N ∧ (∀ x ∈ H, In64 x) ∧ H.length ≤ 9223372036854775807 ∧
      (∀ r ∈ BL, In64 r.1 ∧ In64 r.2.1 ∧ In64 r.2.2) ∧ BL.length ≤ 9223372036854775807 ∧ In64 M := by
  obtain ⟨v0, v1, v2, v3, y0, y1, y2, y3, n, rfl, _, _, h0, h1, h2, h3⟩ := open_agg4 Try.underlying25 (by kernel_rfl) (by kernel_rfl) hv h
  obtain ⟨N, q0, _, w0⟩ := DataW.trod_int Try.underlying3 h0
  obtain ⟨HA, hl, hc, z1, hcs1, hl1, g1, g2⟩ := open_flat Try.underlying22 (K := 1) (by kernel_rfl) (by omega) (elem_int Try.underlying3) h1
  obtain ⟨BA, bl, bc, z2, hcs2, hl2, k1, k2⟩ := open_flat Try.underlying23 (K := 3) (by kernel_rfl) (by omega) three_elem h2
  obtain ⟨M, q3, _, w3⟩ := DataW.trod_int Try.underlying3 h3
  simp only [List.cons.injEq, and_true] at q0 q3 hcs1 hcs2
  subst q0 q3 hcs1 hcs2
  obtain ⟨H, rfl, a1, a2⟩ := nums_of g1 g2
  obtain ⟨BL, rfl, b1, b2⟩ := trips_of k1 k2
  exact ⟨N, HA, hc, H, BA, bc, BL, M, rfl, a1, b1, bounds_i64 w0, a2, hl1, b2, hl2, bounds_i64 w3⟩
theorem open_three (hv : Value.okWide Try.prog W .any base 57 v) (h : DataW.Trod enc Try.prog W 0 (fun _ => true) true 57 v d p) :
    ∃ a b c : Int, v = .agg #[.int .i64 a, .int .i64 b, .int .i64 c] ∧ In64 a ∧ In64 b ∧ In64 c := by
  obtain ⟨cs, rfl, _⟩ := okWide_array Try.underlying57 hv
  obtain ⟨fuel, hf⟩ := h
  obtain ⟨zs, h1, h2, h3⟩ := three_elem H enc W _ _ _ hf
  match zs, h2 with
  | [a, b, c], _ =>
    have e : cs = #[.int .i64 a, .int .i64 b, .int .i64 c] := by
      have : cs.toList = [.int .i64 a, .int .i64 b, .int .i64 c] := by simpa [Value.cells] using h1
      rw [← Array.toArray_toList (xs := cs), this]
    exact ⟨a, b, c, by rw [e], h3 a (by simp), h3 b (by simp), h3 c (by simp)⟩
end

namespace Frame
/-- A world for the witnesses. -/
noncomputable def laidWorld (os : Os) : World := World.holding Try.prog os ⟨#[], #[], []⟩
end Frame
end Go.Proofs.Ytkeimfkaoianmaa
