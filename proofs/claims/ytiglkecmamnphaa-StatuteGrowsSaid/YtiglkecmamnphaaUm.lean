/- What a proof leans on: its members. -/
import Derived.Test.YtiglkecmamnphaaUs1
namespace Go.Proofs.Ytiglkecmamnphaa

theorem up_ext : ∀ {l m : List Int}, Up l → Up m → (∀ y, y ∈ l ↔ y ∈ m) → l = m
  | [], [], _, _, _ => rfl
  | [], y :: m, _, _, h => by have := (h y).2 (List.mem_cons_self ..); cases this
  | x :: l, [], _, _, h => by have := (h x).1 (List.mem_cons_self ..); cases this
  | x :: l, y :: m, hl, hm, h => by
    have hl' := List.pairwise_cons.1 hl
    have hm' := List.pairwise_cons.1 hm
    have exy : x = y := by
      rcases List.mem_cons.1 ((h x).1 (List.mem_cons_self ..)) with e | e
      · exact e
      · rcases List.mem_cons.1 ((h y).2 (List.mem_cons_self ..)) with e2 | e2
        · exact e2.symm
        · have h1 := hm'.1 x e
          have h2 := hl'.1 y e2
          omega
    subst exy
    congr 1
    refine up_ext hl'.2 hm'.2 fun z => ?_
    constructor
    · intro hz
      rcases List.mem_cons.1 ((h z).1 (List.mem_cons_of_mem _ hz)) with e | e
      · have := hl'.1 z hz; omega
      · exact e
    · intro hz
      rcases List.mem_cons.1 ((h z).2 (List.mem_cons_of_mem _ hz)) with e | e
      · have := hm'.1 z hz; omega
      · exact e
theorem uStep_mem (b : Bk) (q : Qn) (p : List Int × List Int) (f : Fd) : (∀ i, i ∈ (uStep b q p f).1 ↔ i ∈ p.1 ∨ (f.2.1 = true ∧ f.2.2.2 = -1 ∧ i = f.2.2.1)) ∧ (∀ i, i ∈ (uStep b q p f).2 ↔ i ∈ p.2 ∨ ((f.2.1 = false ∧ i ∈ sC b q f.1) ∨ (f.2.1 = true ∧ f.2.2.2 ≠ -1 ∧ i = f.2.2.2))) := by
  unfold uStep
  cases hf : f.2.1
  · simp only [if_true]
    exact ⟨fun i => by simp, fun i => by simp [(addS_ok _ _).2]⟩
  · simp only [Bool.true_eq_false, if_false]
    by_cases hc : f.2.2.2 = -1
    · rw [if_pos hc]
      exact ⟨fun i => by simp [(addS_ok _ _).2, hc], fun i => by simp [hc]⟩
    · rw [if_neg hc]
      exact ⟨fun i => by simp [hc], fun i => by simp [(addS_ok _ _).2, hc]⟩
theorem uses_fold (b : Bk) (q : Qn) : ∀ (l : List Fd) (p : List Int × List Int), (∀ i, i ∈ (l.foldl (uStep b q) p).1 ↔ i ∈ p.1 ∨ ∃ f ∈ l, f.2.1 = true ∧ f.2.2.2 = -1 ∧ i = f.2.2.1) ∧ (∀ i, i ∈ (l.foldl (uStep b q) p).2 ↔ i ∈ p.2 ∨ ∃ f ∈ l, (f.2.1 = false ∧ i ∈ sC b q f.1) ∨ (f.2.1 = true ∧ f.2.2.2 ≠ -1 ∧ i = f.2.2.2))
  | [], p => ⟨fun i => by simp, fun i => by simp⟩
  | f :: l, p => by
    obtain ⟨h1, h2⟩ := uses_fold b q l (uStep b q p f)
    obtain ⟨k1, k2⟩ := uStep_mem b q p f
    rw [List.foldl_cons]
    refine ⟨fun i => ?_, fun i => ?_⟩
    · rw [h1 i, k1 i]
      simp [or_assoc]
    · rw [h2 i, k2 i]
      simp only [List.mem_cons, exists_eq_or_imp, or_assoc]
theorem uses_mem (b : Bk) (q : Qn) (l : List Fd) : (∀ i, i ∈ (usesL b q l).1 ↔ ∃ f ∈ l, f.2.1 = true ∧ f.2.2.2 = -1 ∧ i = f.2.2.1) ∧ (∀ i, i ∈ (usesL b q l).2 ↔ ∃ f ∈ l, (f.2.1 = false ∧ i ∈ sC b q f.1) ∨ (f.2.1 = true ∧ f.2.2.2 ≠ -1 ∧ i = f.2.2.2)) := by
  obtain ⟨h1, h2⟩ := uses_fold b q l ([], [])
  exact ⟨fun i => by have := h1 i; simpa [usesL] using this, fun i => by have := h2 i; simpa [usesL] using this⟩
theorem uses_up (b : Bk) (q : Qn) (h20 : b.cls.length ≤ 20) (l : List Fd) : Up (usesL b q l).1 ∧ Up (usesL b q l).2 := by
  have := uses_ok b q h20 l l.length
  rw [List.take_length] at this
  exact ⟨this.1, this.2.1⟩
end Go.Proofs.Ytiglkecmamnphaa
