/- When two rulebooks say the same: what is so, what is accepted; a later repeal; a further need that is so, a further exception that is not. -/
import Derived.Test.YtiglkecmamnphaaMd
namespace Go.Proofs.Ytiglkecmamnphaa

/-- The same facts and clauses apply. -/
structure SameA (b b' : Bk) (q : Qn) : Prop where
  f : ∀ n, sF b q n = sF b' q n
  c : ∀ n, sC b q n = sC b' q n
  k : ∀ n, ∀ i ∈ sC b q n, clsOf b i = clsOf b' i
theorem SameA.step {b b' : Bk} {q : Qn} (h : SameA b b' q) (s : Int → Bool) (n : Int) : stepB b q s n = stepB b' q s n := by
  unfold stepB
  rw [h.f n, ← h.c n, any_congr fun i hi => by rw [h.k n i hi]]
theorem SameA.soN {b b' : Bk} {q : Qn} (h : SameA b b' q) : ∀ k, soN b q k = soN b' q k
  | 0 => rfl
  | k + 1 => by
    funext n
    unfold Go.Proofs.Ytiglkecmamnphaa.soN
    rw [h.soN k, h.step]
theorem SameA.so {b b' : Bk} {q : Qn} (h : SameA b b' q) (n : Int) : soB b q n = soB b' q n := by unfold soB; rw [h.soN]
theorem SameA.right {b b' : Bk} {q : Qn} (h : SameA b b' q) (is : Int → Bool → Bool) (f : Fd) : rightB b q is f = rightB b' q is f := by
  have hA : ((sC b q f.1).all fun i => exB is (clsOf b i)) = (sC b' q f.1).all fun i => exB is (clsOf b' i) := by
    rw [← h.c f.1]
    exact all_congr fun i hi => by rw [h.k f.1 i hi]
  have hB : ((sC b q f.1).contains f.2.2.2 && okB is (clsOf b f.2.2.2)) = ((sC b' q f.1).contains f.2.2.2 && okB is (clsOf b' f.2.2.2)) := by
    rw [← h.c f.1]
    cases hc : (sC b q f.1).contains f.2.2.2
    · rfl
    · rw [h.k f.1 _ (List.contains_iff_mem.1 hc)]
  unfold rightB
  rw [hA, hB, h.f f.1]
theorem SameA.prL {b b' : Bk} {q : Qn} (h : SameA b b' q) : ∀ (l pre : List Fd) (last : Int), prL b q pre last l = prL b' q pre last l
  | [], _, _ => rfl
  | f :: l, pre, last => by
    unfold Go.Proofs.Ytiglkecmamnphaa.prL
    rw [h.right, h.prL l]
theorem SameA.proves {b b' : Bk} {q : Qn} (h : SameA b b' q) (l : List Fd) (n : Int) : provesB b q l n = provesB b' q l n := by unfold provesB; rw [h.prL]
/-- From what applies, as lists of indices. -/
theorem same_of {b b' : Bk} {q : Qn} (hf : aF b q = aF b' q) (hfo : ∀ i ∈ aF b q, (fctOf b i).says = (fctOf b' i).says) (hc : aC b q = aC b' q) (hco : ∀ i ∈ aC b q, clsOf b i = clsOf b' i) : SameA b b' q := by
  refine ⟨fun n => ?_, fun n => ?_, fun n i hi => hco i (mem_sC.1 hi).1⟩
  · unfold sF
    rw [← hf]
    exact List.filter_congr fun i hi => by rw [hfo i hi]
  · unfold sC
    rw [← hc]
    exact List.filter_congr fun i hi => by rw [hco i hi]
/-- Elements that do not apply are put behind those that are there. -/
theorem aF_app {b b' : Bk} {q : Qn} {fs : List Fct} (h : b'.fct = b.fct ++ fs) (hn : ∀ f ∈ fs, fctA q f = false) : aF b q = aF b' q ∧ ∀ i ∈ aF b q, fctOf b i = fctOf b' i := by
  have h1 : ∀ i : Nat, i < b.fct.length → fctOf b (i : Int) = fctOf b' (i : Int) := fun i hi => by
    unfold fctOf
    rw [h, Int.toNat_natCast, List.getElem?_append_left hi]
  have h2 : ∀ i : Nat, b.fct.length ≤ i → i < b'.fct.length → fctA q (fctOf b' (i : Int)) = false := fun i hi hi2 => by
    unfold fctOf
    rw [h] at hi2
    rw [h, Int.toNat_natCast, List.getElem?_append_right hi]
    have : i - b.fct.length < fs.length := by rw [List.length_append] at hi2; omega
    rw [List.getElem?_eq_getElem this]
    exact hn _ (List.getElem_mem this)
  have key : ∀ k, b.fct.length + k ≤ b'.fct.length → aFk b' q (b.fct.length + k) = aF b q := by
    intro k
    induction k with
    | zero =>
      intro _
      unfold aF aFk
      exact (List.filter_congr fun i hi => by
        obtain ⟨j, hj, rfl⟩ := List.mem_map.1 hi
        show fctA q (fctOf b' (j : Int)) = fctA q (fctOf b (j : Int))
        rw [← h1 j (List.mem_range.1 hj)])
    | succ k ih =>
      intro hk
      rw [← Nat.add_assoc, aFk_succ, ih (by omega), if_neg (by rw [h2 _ (by omega) (by omega)]; simp), List.append_nil]
  refine ⟨?_, fun i hi => ?_⟩
  · have := key (b'.fct.length - b.fct.length) (by rw [h, List.length_append]; omega)
    rw [show b.fct.length + (b'.fct.length - b.fct.length) = b'.fct.length by rw [h, List.length_append]; omega] at this
    exact this.symm
  · obtain ⟨⟨h0, hl⟩, _⟩ := mem_aF.1 hi
    have := h1 i.toNat hl
    rwa [Int.toNat_of_nonneg h0] at this
theorem aC_app {b b' : Bk} {q : Qn} {cs : List Cls} (h : b'.cls = b.cls ++ cs) (hr : ∀ i : Nat, i < b.cls.length → repB b q (i : Int) = repB b' q (i : Int)) (hn : ∀ c ∈ cs, (decide (c.pub ≤ q.known) && hasB c.sf c.st q.time) = false) : aC b q = aC b' q ∧ ∀ i ∈ aC b q, clsOf b i = clsOf b' i := by
  have h1 : ∀ i : Nat, i < b.cls.length → clsOf b (i : Int) = clsOf b' (i : Int) := fun i hi => by
    unfold clsOf
    rw [h, Int.toNat_natCast, List.getElem?_append_left hi]
  have h2 : ∀ i : Nat, b.cls.length ≤ i → i < b'.cls.length → clsA b' q (i : Int) (clsOf b' (i : Int)) = false := fun i hi hi2 => by
    unfold clsOf
    rw [h] at hi2
    rw [h, Int.toNat_natCast, List.getElem?_append_right hi]
    have : i - b.cls.length < cs.length := by rw [List.length_append] at hi2; omega
    rw [List.getElem?_eq_getElem this]
    unfold clsA
    rw [Option.getD_some, hn _ (List.getElem_mem this), Bool.false_and]
  have key : ∀ k, b.cls.length + k ≤ b'.cls.length → aCk b' q (b.cls.length + k) = aC b q := by
    intro k
    induction k with
    | zero =>
      intro _
      unfold aC aCk
      exact (List.filter_congr fun i hi => by
        obtain ⟨j, hj, rfl⟩ := List.mem_map.1 hi
        have hj := List.mem_range.1 hj
        show clsA b' q (j : Int) (clsOf b' (j : Int)) = clsA b q (j : Int) (clsOf b (j : Int))
        unfold clsA
        rw [h1 j hj, hr j hj])
    | succ k ih =>
      intro hk
      rw [← Nat.add_assoc, aCk_succ, ih (by omega), if_neg (by rw [h2 _ (by omega) (by omega)]; simp), List.append_nil]
  refine ⟨?_, fun i hi => ?_⟩
  · have := key (b'.cls.length - b.cls.length) (by rw [h, List.length_append]; omega)
    rw [show b.cls.length + (b'.cls.length - b.cls.length) = b'.cls.length by rw [h, List.length_append]; omega] at this
    exact this.symm
  · obtain ⟨⟨h0, hl⟩, _⟩ := mem_aC.1 hi
    have := h1 i.toNat hl
    rwa [Int.toNat_of_nonneg h0] at this
theorem rep_app {b b' : Bk} {q : Qn} {rs : List Rpl} (h : b'.rpl = b.rpl ++ rs) (hn : ∀ r ∈ rs, (decide (r.pub ≤ q.known) && decide (r.frm ≤ q.time)) = false) (i : Int) : repB b q i = repB b' q i := by
  unfold repB
  rw [h, List.any_append]
  have : rs.any (rplA q i) = false := by
    rw [List.any_eq_false]
    intro r hr
    have := hn r hr
    unfold rplA
    rw [Bool.and_assoc, this]
    simp
  rw [this, Bool.or_false]
/-- What was published too late, or is not believed, or is about other things, changes nothing. -/
theorem same_app {b b' : Bk} {q : Qn} {cs : List Cls} {rs : List Rpl} {fs : List Fct} (hc : b'.cls = b.cls ++ cs) (hr : b'.rpl = b.rpl ++ rs) (hf : b'.fct = b.fct ++ fs)
    (nc : ∀ c ∈ cs, (decide (c.pub ≤ q.known) && hasB c.sf c.st q.time) = false) (nr : ∀ r ∈ rs, (decide (r.pub ≤ q.known) && decide (r.frm ≤ q.time)) = false) (nf : ∀ f ∈ fs, fctA q f = false) : SameA b b' q := by
  obtain ⟨f1, f2⟩ := aF_app hf nf
  obtain ⟨c1, c2⟩ := aC_app hc (fun i _ => rep_app hr nr (i : Int)) nc
  exact same_of f1 (fun i hi => by rw [f2 i hi]) c1 c2

/-- A clause in the place of the one with index k, that asks the same of what is so. -/
theorem so_set {b b' : Bk} {q : Qn} (hlow : LowB b) (hlow' : LowB b') {k : Nat} {x y : Cls} (hx : b.cls[k]? = some x) (hc : b'.cls = b.cls.set k y) (hr : b'.rpl = b.rpl) (hf : b'.fct = b.fct)
    (he : y.pub = x.pub ∧ y.sf = x.sf ∧ y.st = x.st ∧ y.gives = x.gives) (hok : okB (fun m h => soB b q m == h) y = okB (fun m h => soB b q m == h) x) : ∀ n, 0 ≤ n → n < 20 → soB b' q n = soB b q n := by
  have hk := (List.getElem?_eq_some_iff.1 hx).1
  have hFo : ∀ i, fctOf b' i = fctOf b i := fun i => by unfold fctOf; rw [hf]
  have hF : aF b' q = aF b q := by
    unfold aF aFk
    rw [hf]
    exact List.filter_congr fun i _ => by rw [hFo]
  have hC1 : ∀ i : Int, i.toNat ≠ k → clsOf b' i = clsOf b i := fun i hi => by
    unfold clsOf
    rw [hc, List.getElem?_set_ne (fun e => hi e.symm)]
  have hC2 : ∀ i : Int, i.toNat = k → clsOf b' i = y ∧ clsOf b i = x := fun i hi => by
    unfold clsOf
    rw [hc, hi, List.getElem?_set_self hk, hx]
    exact ⟨rfl, rfl⟩
  have hg : ∀ i, (clsOf b' i).gives = (clsOf b i).gives ∧ clsA b' q i (clsOf b' i) = clsA b q i (clsOf b i) := fun i => by
    have hrep : repB b' q i = repB b q i := by unfold repB; rw [hr]
    by_cases hi : i.toNat = k
    · obtain ⟨e1, e2⟩ := hC2 i hi
      rw [e1, e2]
      unfold clsA
      rw [he.1, he.2.1, he.2.2.1, hrep]
      exact ⟨he.2.2.2, rfl⟩
    · rw [hC1 i hi]
      unfold clsA
      rw [hrep]
      exact ⟨rfl, rfl⟩
  have hC : aC b' q = aC b q := by
    unfold aC aCk
    rw [hc, List.length_set]
    exact List.filter_congr fun i _ => (hg i).2
  have hsF : ∀ n, sF b' q n = sF b q n := fun n => by unfold sF; rw [hF]; exact List.filter_congr fun i _ => by rw [hFo]
  have hsC : ∀ n, sC b' q n = sC b q n := fun n => by unfold sC; rw [hC]; exact List.filter_congr fun i _ => by rw [(hg i).1]
  intro n
  suffices H : ∀ (N : Nat) (n : Int), 0 ≤ n → n < 20 → n < (N : Int) → soB b' q n = soB b q n from fun h0 h1 => H 20 n h0 h1 (by omega)
  intro N
  induction N with
  | zero => intro n h0 _ h; omega
  | succ N ih =>
    intro n h0 h1 hN
    rw [soB_eq hlow' h0 h1, soB_eq hlow h0 h1, stepB_congr hlow' (s' := soB b q) (fun m m0 mn => ih m m0 (by omega) (by omega))]
    unfold stepB
    rw [hsF n, hsC n]
    congr 1
    refine any_congr fun i hi => ?_
    by_cases hik : i.toNat = k
    · obtain ⟨e1, e2⟩ := hC2 i hik
      rw [e1, e2, hok]
    · rw [hC1 i hik]
/-- An ascending list with a further number. -/
def insI : List Int → Int → List Int
  | [], n => [n]
  | x :: l, n => if x = n then x :: l else if n < x then n :: x :: l else x :: insI l n
theorem insI_mem : ∀ (l : List Int) (n y : Int), y ∈ insI l n ↔ y = n ∨ y ∈ l
  | [], n, y => by simp [insI]
  | x :: l, n, y => by
    unfold insI
    by_cases h1 : x = n
    · rw [if_pos h1]; subst h1; simp
    · rw [if_neg h1]
      by_cases h2 : n < x
      · rw [if_pos h2]; simp
      · rw [if_neg h2, List.mem_cons, insI_mem l n y, List.mem_cons]
        constructor
        · rintro (h | h | h)
          · exact .inr (.inl h)
          · exact .inl h
          · exact .inr (.inr h)
        · rintro (h | h | h)
          · exact .inr (.inl h)
          · exact .inl h
          · exact .inr (.inr h)
theorem insI_len : ∀ (l : List Int) (n : Int), (insI l n).length ≤ l.length + 1
  | [], n => by simp [insI]
  | x :: l, n => by
    unfold insI
    have := insI_len l n
    split
    · simp
    · split
      · simp
      · simp only [List.length_cons]; omega
theorem insI_up : ∀ {l : List Int} (n : Int), Up l → Up (insI l n)
  | [], n, _ => List.pairwise_singleton _ _
  | x :: l, n, h => by
    have hx := List.pairwise_cons.1 h
    unfold insI
    by_cases h1 : x = n
    · rw [if_pos h1]; exact h
    · rw [if_neg h1]
      by_cases h2 : n < x
      · rw [if_pos h2]
        refine List.pairwise_cons.2 ⟨fun y hy => ?_, h⟩
        rcases List.mem_cons.1 hy with rfl | hy
        · exact h2
        · have := hx.1 y hy; omega
      · rw [if_neg h2]
        refine List.pairwise_cons.2 ⟨fun y hy => ?_, insI_up n hx.2⟩
        rcases (insI_mem l n y).1 hy with rfl | hy
        · omega
        · exact hx.1 y hy
/-- A further need that is so: the clause asks the same. -/
theorem ok_need {is : Int → Bool → Bool} {x : Cls} {n : Int} (h : is n true = true) : okB is { x with needs := insI x.needs n } = okB is x := by
  unfold okB
  congr 1
  rw [Bool.eq_iff_iff, List.all_eq_true, List.all_eq_true]
  constructor
  · exact fun k m hm => k m ((insI_mem _ _ _).2 (.inr hm))
  · intro k m hm
    rcases (insI_mem _ _ _).1 hm with rfl | hm
    · exact h
    · exact k m hm
theorem ok_bar {is : Int → Bool → Bool} {x : Cls} {n : Int} (h : is n false = true) : okB is { x with bars := insI x.bars n } = okB is x := by
  unfold okB
  congr 1
  rw [Bool.eq_iff_iff, List.all_eq_true, List.all_eq_true]
  constructor
  · exact fun k m hm => k m ((insI_mem _ _ _).2 (.inr hm))
  · intro k m hm
    rcases (insI_mem _ _ _).1 hm with rfl | hm
    · exact h
    · exact k m hm
end Go.Proofs.Ytiglkecmamnphaa
