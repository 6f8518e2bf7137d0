/- Rules that stay valid. -/
import Derived.Test.YtiglkecmamnphaaEm
namespace Go.Proofs.Ytiglkecmamnphaa

theorem rplB_more {n m : Int} {r : Rpl} (h : rplB n r = true) (hm : n ≤ m) : rplB m r = true := by
  simp only [rplB, Bool.and_eq_true, decide_eq_true_eq] at h ⊢
  exact ⟨⟨⟨h.1.1.1, by omega⟩, h.1.2⟩, h.2⟩
theorem valid_app {b : Bk} {cs : List Cls} {rs : List Rpl} {fs : List Fct} (h : validB b = true) (h1 : b.cls.length + cs.length ≤ 20) (h2 : b.rpl.length + rs.length ≤ 10) (h3 : b.fct.length + fs.length ≤ 20)
    (hc : ∀ c ∈ cs, clsB c = true) (hr : ∀ r ∈ rs, rplB ((b.cls.length + cs.length : Nat) : Int) r = true) (hf : ∀ f ∈ fs, fctB f = true) : validB ⟨b.cls ++ cs, b.rpl ++ rs, b.fct ++ fs⟩ = true := by
  simp only [validB, Bool.and_eq_true, decide_eq_true_eq, List.all_eq_true, List.length_append] at h ⊢
  refine ⟨⟨⟨⟨⟨h1, h2⟩, h3⟩, fun c hc' => ?_⟩, fun r hr' => ?_⟩, fun f hf' => ?_⟩
  · rcases List.mem_append.1 hc' with k | k
    · exact h.1.1.2 c k
    · exact hc c k
  · rcases List.mem_append.1 hr' with k | k
    · exact rplB_more (h.1.2 r k) (by omega)
    · exact hr r k
  · rcases List.mem_append.1 hf' with k | k
    · exact h.2 f k
    · exact hf f k
theorem valid_set {b : Bk} {k : Nat} {y : Cls} (h : validB b = true) (hy : clsB y = true) : validB ⟨b.cls.set k y, b.rpl, b.fct⟩ = true := by
  simp only [validB, Bool.and_eq_true, decide_eq_true_eq, List.all_eq_true, List.length_set] at h ⊢
  refine ⟨⟨⟨h.1.1.1, fun c hc => ?_⟩, h.1.2⟩, h.2⟩
  rcases List.mem_or_eq_of_mem_set hc with hc | rfl
  · exact h.1.1.2 c hc
  · exact hy
theorem terms_up : ∀ {l : List Int} {g last : Int}, termsL g last l = true → Up l ∧ ∀ n ∈ l, last < n ∧ n < g
  | [], _, _, _ => ⟨List.Pairwise.nil, fun n hn => by cases hn⟩
  | x :: l, g, last, h => by
    simp only [termsL, Bool.and_eq_true, decide_eq_true_eq] at h
    obtain ⟨h1, h2⟩ := terms_up h.2
    refine ⟨List.pairwise_cons.2 ⟨fun y hy => (h2 y hy).1, h1⟩, fun n hn => ?_⟩
    rcases List.mem_cons.1 hn with rfl | hn
    · exact h.1
    · have := h2 n hn; omega
theorem terms_ins {l : List Int} {g n : Int} (h : termsB l g = true) (h3 : l.length ≤ 3) (h0 : 0 ≤ n) (h1 : n < g) : termsB (insI l n) g = true := by
  simp only [termsB, Bool.and_eq_true, decide_eq_true_eq] at h
  obtain ⟨hu, hm⟩ := terms_up h.2
  refine terms_of (by have := insI_len l n; omega) (insI_up n hu) fun m hm' => ?_
  rcases (insI_mem l n m).1 hm' with rfl | hm'
  · exact ⟨h0, h1⟩
  · have := hm m hm'; omega
theorem cls_need {x : Cls} {n : Int} (h : clsB x = true) (h3 : x.needs.length ≤ 3) (h0 : 0 ≤ n) (h1 : n < x.gives) : clsB { x with needs := insI x.needs n } = true := by
  unfold clsB at h ⊢
  simp only [Bool.and_eq_true] at h ⊢
  exact ⟨⟨h.1.1, terms_ins h.1.2 h3 h0 h1⟩, h.2⟩
theorem cls_bar {x : Cls} {n : Int} (h : clsB x = true) (h3 : x.bars.length ≤ 3) (h0 : 0 ≤ n) (h1 : n < x.gives) : clsB { x with bars := insI x.bars n } = true := by
  unfold clsB at h ⊢
  simp only [Bool.and_eq_true] at h ⊢
  exact ⟨h.1, terms_ins h.2 h3 h0 h1⟩
theorem so_says (b : Bk) (th s1 s2 tm kn n : Int) : soB b ⟨th, s1, tm, kn⟩ n = soB b ⟨th, s2, tm, kn⟩ n := by
  have hF : ∀ m, sF b ⟨th, s1, tm, kn⟩ m = sF b ⟨th, s2, tm, kn⟩ m := fun m => rfl
  have hC : ∀ m, sC b ⟨th, s1, tm, kn⟩ m = sC b ⟨th, s2, tm, kn⟩ m := fun m => rfl
  have key : ∀ k, soN b ⟨th, s1, tm, kn⟩ k = soN b ⟨th, s2, tm, kn⟩ k := by
    intro k
    induction k with
    | zero => rfl
    | succ k ih =>
      funext m
      unfold soN
      rw [ih]
      unfold stepB
      rw [hF, hC]
  unfold soB
  rw [key]
/-- What is true of the clauses that integers determine. -/
theorem made_terms (C : List Six) (R : List Tri) (F : List Six) : ∀ c ∈ (madeB C R F).cls, clsB c = true ∧ c.needs.length ≤ 3 ∧ c.bars.length ≤ 3 := by
  intro c hc
  obtain ⟨y, _, rfl⟩ := List.mem_map.1 hc
  exact clsI_ok y
theorem cls_up {x : Cls} (h : clsB x = true) : Up x.needs ∧ Up x.bars := by
  unfold clsB termsB at h
  simp only [Bool.and_eq_true] at h
  exact ⟨(terms_up h.1.2.2).1, (terms_up h.2.2).1⟩
theorem cls_gives {x : Cls} (h : clsB x = true) : 0 ≤ x.gives ∧ x.gives < 20 := by
  unfold clsB sayB at h
  simp only [Bool.and_eq_true, decide_eq_true_eq] at h
  exact h.1.1.2
end Go.Proofs.Ytiglkecmamnphaa
