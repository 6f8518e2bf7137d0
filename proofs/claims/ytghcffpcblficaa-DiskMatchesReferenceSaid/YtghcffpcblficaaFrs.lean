/- Calls among the arguments, opened. -/
import Derived.Test.YtghcffpcblficaaFrame
import Derived.Test.YtghcffpcblficaaMr
namespace Go.Proofs.Ytghcffpcblficaa
open Go.ChangeShapes Go.WideShapes Go.ChangeAt Go.RowKit Go.Joins Go.Deep

theorem elem_sp {P : Program} {t e : TypeId} {f0 f1 f2 f3 f4 : Field} (ht : P.underlying t = some (.struct #[f0, f1, f2, f3, f4])) (h0 : P.underlying f0.type = some (.int .i64)) (h1 : P.underlying f1.type = some (.int .i64)) (h2 : P.underlying f2.type = some (.int .i64)) (h3 : P.underlying f3.type = some .string) (h4 : P.underlying f4.type = some (.slice e)) (he : P.underlying e = some (.int .i64)) (hce : P.cellsOf e = 1)
    (hc : P.cellsOf t = 5 ∧ (P.cellsOf f0.type = 1 ∧ P.cellsOf f1.type = 1 ∧ P.cellsOf f2.type = 1 ∧ P.cellsOf f3.type = 1 ∧ P.cellsOf f4.type = 1) ∧ f0.offset = 0 ∧ f1.offset = 1 ∧ f2.offset = 2 ∧ f3.offset = 3 ∧ f4.offset = 4) : ElemG spL GoodS P t := by
  intro H ec W n cs y h
  obtain ⟨xs, m, _, _, hcs, hl, hf⟩ := DataW.trod_struct ht h
  obtain ⟨k, ⟨k0, k1, k2, k3, k4⟩, o0, o1, o2, o3, o4⟩ := hc
  rw [k] at hcs
  match xs, hl, cs, hcs with
  | [y0, y1, y2, y3, y4], _, [c0, c1, c2, c3, c4], _ =>
    have g0 := hf 0 f0 rfl
    have g1 := hf 1 f1 rfl
    have g2 := hf 2 f2 rfl
    have g3 := hf 3 f3 rfl
    have g4 := hf 4 f4 rfl
    rw [k0, o0] at g0
    rw [k1, o1] at g1
    rw [k2, o2] at g2
    rw [k3, o3] at g3
    rw [k4, o4] at g4
    obtain ⟨a0, e0, _, w0⟩ := DataW.trod_int h0 (x := y0) (by simpa using g0)
    obtain ⟨a1, e1, _, w1⟩ := DataW.trod_int h1 (x := y1) (by simpa using g1)
    obtain ⟨a2, e2, _, w2⟩ := DataW.trod_int h2 (x := y2) (by simpa using g2)
    obtain ⟨a3, e3, _, w3⟩ := DataW.trod_string h3 (x := y3) (by simpa using g3)
    have g4' : DataW.trod ec P W 0 (fun _ => true) true m f4.type [c4] = some y4 := by simpa using g4
    obtain ⟨A, c, l, e4, hl, _, cel⟩ := open_flatG (K := 1) (enc := i1) (fun _ => rfl) h4 hce (by decide) (elem_int he) g4'
    simp only [List.cons.injEq, and_true] at e0 e1 e2 e3 e4
    subst e0 e1 e2 e3 e4
    have hcap := cap_of h4 g4'
    exact ⟨⟨a0, a1, a2, a3, A, l, c⟩, rfl, bounds_i64 w0, bounds_i64 w1, bounds_i64 w2, w3, nums_of cel, hcap.1, hcap.2⟩
theorem sp_elem : ElemG spL GoodS Try.prog 39 := elem_sp Try.underlying39 (by kernel_rfl) (by kernel_rfl) (by kernel_rfl) (by kernel_rfl) Try.underlying37 Try.underlying3 (by kernel_rfl) ⟨by kernel_rfl, ⟨by kernel_rfl, by kernel_rfl, by kernel_rfl, by kernel_rfl, by kernel_rfl⟩, rfl, rfl, rfl, rfl, rfl⟩
section
variable {H : Type} {enc : TypeId × Value → H} {W : World} {base : Nat} {v : Value} {d : DataW H} {p : List MemPlace}
set_option maxRecDepth 100000 in
theorem open_steps (hv : Value.okWide Try.prog W .any base 32 v) (h : DataW.Trod enc Try.prog W 0 (fun _ => true) true 32 v d p) :
    ∃ (A : Option Addr) (cap : Nat) (l : List Sp), v = .slice A l.length cap ∧ SpsC W A l ∧ (∀ y ∈ l, GoodS W y) ∧ l.length ≤ 9223372036854775807 := by
  obtain ⟨a, len, cap, rfl⟩ := okWide_slice Try.underlying32 hv
  obtain ⟨fuel, hf⟩ := h
  obtain ⟨A, c, l, hcs, hl, g, k⟩ := open_flatG (K := 5) spL_len Try.underlying32 (by kernel_rfl) (by omega) sp_elem hf
  simp [Value.cells] at hcs
  obtain ⟨rfl, rfl, rfl⟩ := hcs
  exact ⟨_, _, l, rfl, k, g, hl.1⟩
end
end Go.Proofs.Ytghcffpcblficaa
