/- What Decide finds, and what of it is needed: the plain facts. -/
import Derived.Test.YtiglkecmamnphaaSt
namespace Go.Proofs.Ytiglkecmamnphaa

/-- What was found by now: each finding is right by the others, and they are about different numbers. -/
def Cld (b : Bk) (q : Qn) (S : List Fd) : Prop := (∀ f ∈ S, (0 ≤ f.1 ∧ f.1 < 20) ∧ f.2.1 = soB b q f.1 ∧ rightB b q (isL S) f = true) ∧ S.Pairwise fun f g => f.1 ≠ g.1
/-- S' was found after S, about numbers below n. -/
def Grw (n : Int) (S S' : List Fd) : Prop := ∃ T, S' = S ++ T ∧ ∀ f ∈ T, f.1 < n
theorem Grw.refl (n : Int) (S : List Fd) : Grw n S S := ⟨[], by simp, fun _ h => by cases h⟩
theorem Grw.trans {n m : Int} {S S' S'' : List Fd} (h : Grw n S S') (k : Grw m S' S'') (hm : m ≤ n) : Grw n S S'' := by
  obtain ⟨T, rfl, hT⟩ := h
  obtain ⟨U, rfl, hU⟩ := k
  refine ⟨T ++ U, by rw [List.append_assoc], fun f hf => ?_⟩
  rcases List.mem_append.1 hf with hf | hf
  · exact hT f hf
  · exact Int.lt_of_lt_of_le (hU f hf) hm
theorem Grw.sub {n : Int} {S S' : List Fd} (h : Grw n S S') : ∀ g ∈ S, g ∈ S' := by
  obtain ⟨T, rfl, _⟩ := h
  exact fun g hg => List.mem_append_left _ hg
theorem Grw.is {n : Int} {S S' : List Fd} (h : Grw n S S') : ∀ m k, isL S m k = true → isL S' m k = true := isL_mono h.sub
theorem Grw.fresh {n : Int} {S S' : List Fd} (h : Grw n S S') (hn : ∀ g ∈ S, g.1 ≠ n) : ∀ g ∈ S', g.1 ≠ n := by
  obtain ⟨T, rfl, hT⟩ := h
  intro g hg
  rcases List.mem_append.1 hg with hg | hg
  · exact hn g hg
  · exact Int.ne_of_lt (hT g hg)
/-- A finding more. -/
theorem Cld.add {b : Bk} {q : Qn} {S : List Fd} {f : Fd} (h : Cld b q S) (hf : (0 ≤ f.1 ∧ f.1 < 20) ∧ f.2.1 = soB b q f.1 ∧ rightB b q (isL S) f = true) (hn : ∀ g ∈ S, g.1 ≠ f.1) : Cld b q (S ++ [f]) := by
  have hm : ∀ m k, isL S m k = true → isL (S ++ [f]) m k = true := isL_mono fun g hg => List.mem_append_left _ hg
  refine ⟨fun g hg => ?_, ?_⟩
  · rcases List.mem_append.1 hg with hg | hg
    · exact ⟨(h.1 g hg).1, (h.1 g hg).2.1, rightB_mono hm (h.1 g hg).2.2⟩
    · rcases List.mem_singleton.1 hg with rfl
      exact ⟨hf.1, hf.2.1, rightB_mono hm hf.2.2⟩
  · rw [List.pairwise_append]
    refine ⟨h.2, List.pairwise_singleton .., fun g hg x hx => ?_⟩
    rcases List.mem_singleton.1 hx with rfl
    exact hn g hg
theorem Cld.key {b : Bk} {q : Qn} {S : List Fd} {f g : Fd} (h : Cld b q S) (hf : f ∈ S) (hg : g ∈ S) (e : f.1 = g.1) : f = g := by
  apply Decidable.byContradiction
  intro hne
  obtain ⟨i, hi⟩ := List.getElem?_of_mem hf
  obtain ⟨j, hj⟩ := List.getElem?_of_mem hg
  obtain ⟨hi1, hi2⟩ := List.getElem?_eq_some_iff.1 hi
  obtain ⟨hj1, hj2⟩ := List.getElem?_eq_some_iff.1 hj
  have hp := List.pairwise_iff_getElem.1 h.2
  rcases Nat.lt_trichotomy i j with hij | hij | hij
  · exact hp i j hi1 hj1 hij (by rw [hi2, hj2, e])
  · subst hij
    exact hne (hi2.symm.trans hj2)
  · exact hp j i hj1 hi1 hij (by rw [hi2, hj2, e])
theorem Cld.is {b : Bk} {q : Qn} {S : List Fd} (h : Cld b q S) {f : Fd} (hf : f ∈ S) : isL S f.1 (soB b q f.1) = true := isL_iff.2 ⟨f, hf, rfl, (h.1 f hf).2.1⟩
/-- The three findings. -/
theorem found_fact {b : Bk} {q : Qn} (hb : LowB b) {n i : Int} {is : Int → Bool → Bool} (h0 : 0 ≤ n) (h1 : n < 20) (hi : i ∈ sF b q n) : soB b q n = true ∧ rightB b q is (n, true, i, -1) = true := by
  refine ⟨?_, ?_⟩
  · rw [soB_eq hb h0 h1, stepB]
    cases hs : sF b q n with
    | nil => rw [hs] at hi; cases hi
    | cons x l => rfl
  · unfold rightB
    rw [if_neg (by simp), if_pos rfl]
    exact List.contains_iff_mem.2 hi
theorem found_clause {b : Bk} {q : Qn} (hb : LowB b) {n i : Int} {is : Int → Bool → Bool} (h0 : 0 ≤ n) (h1 : n < 20) (hi : i ∈ sC b q n) (ho : okB is (clsOf b i) = true) (hs : ∀ m h, is m h = true → 0 ≤ m → m < n → soB b q m = h) : soB b q n = true ∧ rightB b q is (n, true, -1, i) = true := by
  have hi0 : 0 ≤ i := (mem_aC.1 (mem_sC.1 hi).1).1.1
  have hr : rightB b q is (n, true, -1, i) = true := by
    unfold rightB
    rw [if_neg (by simp), if_neg (by simp; omega), if_pos rfl]
    simp only [Bool.and_eq_true]
    exact ⟨List.contains_iff_mem.2 hi, ho⟩
  exact ⟨(right_so hb h0 h1 (fun m h hm m0 e => hs m h e m0 hm) hr).symm, hr⟩
theorem found_not {b : Bk} {q : Qn} (hb : LowB b) {n : Int} {is : Int → Bool → Bool} (h0 : 0 ≤ n) (h1 : n < 20) (hF : sF b q n = []) (hC : ∀ i ∈ sC b q n, exB is (clsOf b i) = true) (hs : ∀ m h, is m h = true → 0 ≤ m → m < n → soB b q m = h) : soB b q n = false ∧ rightB b q is (n, false, -1, -1) = true := by
  have hr : rightB b q is (n, false, -1, -1) = true := by
    unfold rightB
    rw [if_pos rfl]
    simp only [Bool.and_eq_true, List.all_eq_true]
    exact ⟨by rw [hF]; rfl, hC⟩
  exact ⟨(right_so hb h0 h1 (fun m h hm m0 e => hs m h e m0 hm) hr).symm, hr⟩
theorem Cld.so {b : Bk} {q : Qn} {S : List Fd} (h : Cld b q S) : ∀ m k, isL S m k = true → soB b q m = k := fun m k e => by
  obtain ⟨g, hg, rfl, rfl⟩ := isL_iff.1 e
  exact (h.1 g hg).2.1.symm
theorem isL_same {l m : List Fd} (h : ∀ g, g ∈ l ↔ g ∈ m) : isL l = isL m := by
  funext n k
  rw [Bool.eq_iff_iff, isL_iff, isL_iff]
  constructor
  · rintro ⟨g, hg, e⟩; exact ⟨g, (h g).1 hg, e⟩
  · rintro ⟨g, hg, e⟩; exact ⟨g, (h g).2 hg, e⟩
/-- What was found, in ascending order, is a proof. -/
theorem cld_proves {b : Bk} {q : Qn} (hb : LowB b) {S l : List Fd} {n : Int} (h : Cld b q S) (hm : ∀ g, g ∈ l ↔ g ∈ S) (ha : Asc (-1) l) (hn : ∀ g ∈ S, g.1 ≤ n) (hx : ∃ g ∈ S, g.1 = n) : provesB b q l n = true := by
  refine (provesB_iff hb).2 ⟨⟨ha, fun f hf => ?_⟩, ?_⟩
  · rw [isL_same hm]
    exact (h.1 f ((hm f).1 hf)).2.2
  · obtain ⟨g, hg, rfl⟩ := hx
    have h1 := asc_lt_last ha g ((hm g).2 hg)
    have h2 : l ≠ [] := fun e => by have := (hm g).2 hg; rw [e] at this; cases this
    have h3 : ∀ (l : List Fd) (d : Int), l ≠ [] → ∃ f ∈ l, lastS d l = f.1 := by
      intro l
      induction l with
      | nil => exact fun d h => absurd rfl h
      | cons y l ih =>
        intro d _
        cases l with
        | nil => exact ⟨y, List.mem_cons_self .., rfl⟩
        | cons z l =>
          obtain ⟨f, hf, e⟩ := ih y.1 (by simp)
          exact ⟨f, List.mem_cons_of_mem _ hf, e⟩
    obtain ⟨f, hf, e⟩ := h3 l (-1) h2
    have h4 := hn f ((hm f).1 hf)
    omega
/-- No finding of B but the last one can be left out. -/
def Need (b : Bk) (q : Qn) (n : Int) (A B : List Fd) : Prop := provesB b q (A ++ B) n = true ∧ B ≠ [] ∧ ∀ B1 x B2, B = B1 ++ x :: B2 → B2 ≠ [] → provesB b q (A ++ (B1 ++ B2)) n = false
theorem need_start {b : Bk} {q : Qn} {n : Int} {A : List Fd} {x : Fd} (h : provesB b q (A ++ [x]) n = true) : Need b q n A [x] := by
  refine ⟨h, by simp, fun B1 y B2 e h2 => ?_⟩
  exfalso
  cases B1 with
  | nil => simp at e; exact h2 e.2
  | cons z B1 => simp at e
theorem need_keep {b : Bk} {q : Qn} {n : Int} {A B : List Fd} {x : Fd} (h : Need b q n (A ++ [x]) B) (hx : provesB b q (A ++ B) n = false) : Need b q n A (x :: B) := by
  obtain ⟨h1, h2, h3⟩ := h
  refine ⟨by simpa using h1, by simp, fun B1 y B2 e hy => ?_⟩
  cases B1 with
  | nil =>
    simp only [List.nil_append, List.cons.injEq] at e
    obtain ⟨rfl, rfl⟩ := e
    exact hx
  | cons z B1 =>
    simp only [List.cons_append, List.cons.injEq] at e
    obtain ⟨rfl, rfl⟩ := e
    have := h3 B1 y B2 rfl hy
    simpa using this
theorem need_drop {b : Bk} {q : Qn} (hb : LowB b) {n : Int} {A B : List Fd} {x : Fd} (h : Need b q n (A ++ [x]) B) (hx : provesB b q (A ++ B) n = true) : Need b q n A B := by
  obtain ⟨h1, h2, h3⟩ := h
  refine ⟨hx, h2, fun B1 y B2 e hy => ?_⟩
  have h4 := h3 B1 y B2 e hy
  cases hz : provesB b q (A ++ (B1 ++ B2)) n
  · rfl
  · exfalso
    obtain ⟨⟨ha, hr⟩, hl⟩ := (provesB_iff hb).1 h1
    have hasc : Asc (-1) ((A ++ [x]) ++ (B1 ++ B2)) := by
      have hdel : ∀ (U : List Fd) (d : Int), Asc d (U ++ y :: B2) → Asc d (U ++ B2) := by
        intro U d hU
        rw [asc_append] at hU ⊢
        exact ⟨hU.1, asc_weak (Int.le_of_lt hU.2.1) hU.2.2⟩
      rw [e, ← List.append_assoc] at ha
      rw [← List.append_assoc]
      exact hdel _ _ ha
    have hA : ∀ f ∈ A ++ [x], rightB b q (isL (A ++ [x])) f = true := by
      have := (prL_append b q (A ++ [x]) B [] (-1))
      have hp : provesB b q ((A ++ [x]) ++ B) n = true := h1
      unfold provesB at hp
      rw [this, Bool.and_eq_true, Bool.and_eq_true] at hp
      have := ((prL_iff hb (l := A ++ [x]) (pre := []) (by intro g hg; cases hg)).1 hp.1.1).2
      simpa using this
    have := proves_less hb (A := A ++ [x]) (A' := A) (B := B1 ++ B2) (n := n) (fun f hf => List.mem_append_left _ hf) hasc hA (by cases B1 with
      | nil => exact hy
      | cons z B1 => simp) hz
    rw [h4] at this
    cases this
/-- A proof that is not spare. -/
def Slim (b : Bk) (q : Qn) (n : Int) (l : List Fd) : Prop := provesB b q l n = true ∧ ∀ l1 x l2, l = l1 ++ x :: l2 → provesB b q (l1 ++ l2) n = false
theorem slim_of {b : Bk} {q : Qn} (hb : LowB b) {n : Int} {l : List Fd} (h : Need b q n [] l) : Slim b q n l := by
  obtain ⟨h1, h2, h3⟩ := h
  refine ⟨by simpa using h1, fun l1 x l2 e => ?_⟩
  cases l2 with
  | cons y l2 => exact h3 l1 x _ e (by simp)
  | nil =>
    rw [List.append_nil]
    cases hz : provesB b q l1 n
    · rfl
    · exfalso
      obtain ⟨⟨ha, _⟩, hl⟩ := (provesB_iff hb).1 h1
      obtain ⟨_, hl'⟩ := (provesB_iff hb).1 hz
      rw [List.nil_append, e] at hl ha
      rw [lastS_snoc] at hl
      rw [asc_append] at ha
      have := ha.2.1
      omega
end Go.Proofs.Ytiglkecmamnphaa
