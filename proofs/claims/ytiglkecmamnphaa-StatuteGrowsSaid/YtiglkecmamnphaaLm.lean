/- Leans: the rules that a proof leans on. -/
import Derived.Test.YtiglkecmamnphaaUm
import Derived.Test.YtiglkecmamnphaaSi
import Derived.Test.YtiglkecmamnphaaPx
namespace Go.Proofs.Ytiglkecmamnphaa

theorem up_len : ∀ {l : List Int} {a : Int} {n : Nat}, Up l → (∀ y ∈ l, a ≤ y ∧ y < a + (n : Int)) → l.length ≤ n
  | [], _, _, _, _ => Nat.zero_le _
  | x :: l, a, n, h, hm => by
    have h' := List.pairwise_cons.1 h
    have hx := hm x (List.mem_cons_self ..)
    obtain ⟨m, rfl⟩ : ∃ m, n = m + 1 := ⟨n - 1, by omega⟩
    have := up_len (a := a + 1) (n := m) h'.2 (fun y hy => by
      have h1 := h'.1 y hy
      have h2 := hm y (List.mem_cons_of_mem _ hy)
      omega)
    simp only [List.length_cons]
    omega
theorem pos_up {l : List Int} {x : Int} {k : Nat} (hu : Up l) (h : l[k]? = some x) : posI l x = (k : Int) := by
  refine pos_hit h fun y hy => ?_
  obtain ⟨j, hj, rfl⟩ := List.getElem_of_mem hy
  rw [List.length_take] at hj
  obtain ⟨h1, h2⟩ := List.getElem?_eq_some_iff.1 h
  have := List.pairwise_iff_getElem.1 hu j k (by omega) h1 (by omega)
  rw [List.getElem_take, ← h2]
  omega
theorem pos_mem {l : List Int} {x : Int} (hu : Up l) (h : x ∈ l) : ∃ k : Nat, l[k]? = some x ∧ posI l x = (k : Int) := by
  obtain ⟨k, hk, rfl⟩ := List.getElem_of_mem h
  exact ⟨k, List.getElem?_eq_getElem hk, pos_up hu (List.getElem?_eq_getElem hk)⟩
theorem pos_not {l : List Int} {x : Int} (h : ¬ x ∈ l) : posI l x = -1 := pos_none fun _ hy e => h (e ▸ hy)
theorem pos_in {l : List Int} {x : Int} (h : 0 ≤ posI l x) : x ∈ l := by
  by_cases hx : x ∈ l
  · exact hx
  · rw [pos_not hx] at h; omega
/-- A repeal, by its clause's place in the list. -/
def lessR (Cl : List Int) (r : Rpl) : Option Rpl := if 0 ≤ posI Cl r.clause then some ⟨posI Cl r.clause, r.pub, r.frm⟩ else none
/-- The rules of the two lists alone. -/
def lessB (c : Bk) (Cl F : List Int) : Bk := ⟨Cl.map (clsOf c), c.rpl.filterMap (lessR Cl), F.map (fctOf c)⟩
def mvF (Cl F : List Int) (f : Fd) : Fd := (f.1, f.2.1, posI F f.2.2.1, posI Cl f.2.2.2)
structure Sub (c : Bk) (q : Qn) (Cl F : List Int) : Prop where
  uc : Up Cl
  uf : Up F
  mc : ∀ i ∈ Cl, i ∈ aC c q
  mf : ∀ i ∈ F, i ∈ aF c q
section
variable {c : Bk} {q : Qn} {Cl F : List Int}
theorem less_cls {j : Nat} {i : Int} (h : Cl[j]? = some i) : clsOf (lessB c Cl F) (j : Int) = clsOf c i := by
  show ((Cl.map (clsOf c))[(j : Int).toNat]?).getD _ = _
  rw [Int.toNat_natCast, List.getElem?_map, h]
  rfl
theorem less_fct {j : Nat} {i : Int} (h : F[j]? = some i) : fctOf (lessB c Cl F) (j : Int) = fctOf c i := by
  show ((F.map (fctOf c))[(j : Int).toNat]?).getD _ = _
  rw [Int.toNat_natCast, List.getElem?_map, h]
  rfl
theorem less_rep (hu : Up Cl) {j : Nat} {i : Int} (h : Cl[j]? = some i) : repB (lessB c Cl F) q (j : Int) = repB c q i := by
  unfold repB
  rw [Bool.eq_iff_iff, List.any_eq_true, List.any_eq_true]
  constructor
  · rintro ⟨r', hr', hA⟩
    obtain ⟨r, hr, he⟩ := List.mem_filterMap.1 (show r' ∈ c.rpl.filterMap (lessR Cl) from hr')
    unfold lessR at he
    split at he
    · rename_i h0
      cases he
      refine ⟨r, hr, ?_⟩
      unfold rplA at hA ⊢
      simp only [Bool.and_eq_true, decide_eq_true_eq] at hA ⊢
      obtain ⟨k, hk, e⟩ := pos_mem hu (pos_in h0)
      have : k = j := by have := hA.1.1; omega
      subst this
      rw [h] at hk
      exact ⟨⟨(Option.some.inj hk).symm, hA.1.2⟩, hA.2⟩
    · cases he
  · rintro ⟨r, hr, hA⟩
    unfold rplA at hA
    simp only [Bool.and_eq_true, decide_eq_true_eq] at hA
    have hp : posI Cl r.clause = (j : Int) := by rw [hA.1.1]; exact pos_up hu h
    refine ⟨⟨j, r.pub, r.frm⟩, List.mem_filterMap.2 ⟨r, hr, ?_⟩, ?_⟩
    · unfold lessR
      rw [hp, if_pos (Int.natCast_nonneg j)]
    · unfold rplA
      simp only [Bool.and_eq_true, decide_eq_true_eq]
      exact ⟨⟨trivial, hA.1.2⟩, hA.2⟩
theorem less_sC (hs : Sub c q Cl F) {n x : Int} (h : x ∈ sC (lessB c Cl F) q n) : ∃ (j : Nat) (i : Int), x = (j : Int) ∧ Cl[j]? = some i ∧ i ∈ sC c q n := by
  obtain ⟨h1, h2⟩ := mem_sC.1 h
  obtain ⟨⟨h0, hl⟩, _⟩ := mem_aC.1 h1
  have hl' : x.toNat < Cl.length := by have : x.toNat < (Cl.map (clsOf c)).length := hl; rwa [List.length_map] at this
  have hx : x = ((x.toNat : Nat) : Int) := (Int.toNat_of_nonneg h0).symm
  have hi := List.getElem?_eq_getElem hl'
  refine ⟨x.toNat, _, hx, hi, mem_sC.2 ⟨hs.mc _ (List.mem_of_getElem? hi), ?_⟩⟩
  rw [hx, less_cls hi] at h2
  exact h2
theorem sC_less (hs : Sub c q Cl F) {n i : Int} {j : Nat} (hi : Cl[j]? = some i) (h : i ∈ sC c q n) : (j : Int) ∈ sC (lessB c Cl F) q n := by
  obtain ⟨h1, h2⟩ := mem_sC.1 h
  obtain ⟨_, h3⟩ := mem_aC.1 h1
  refine mem_sC.2 ⟨mem_aC.2 ⟨⟨Int.natCast_nonneg j, ?_⟩, ?_⟩, ?_⟩
  · show (j : Int).toNat < (Cl.map (clsOf c)).length
    rw [Int.toNat_natCast, List.length_map]
    exact (List.getElem?_eq_some_iff.1 hi).1
  · unfold clsA at h3 ⊢
    rw [less_cls hi, less_rep hs.uc hi]
    exact h3
  · rw [less_cls hi]
    exact h2
theorem less_sF (hs : Sub c q Cl F) {n x : Int} (h : x ∈ sF (lessB c Cl F) q n) : ∃ (j : Nat) (i : Int), x = (j : Int) ∧ F[j]? = some i ∧ i ∈ sF c q n := by
  obtain ⟨h1, h2⟩ := mem_sF.1 h
  obtain ⟨⟨h0, hl⟩, _⟩ := mem_aF.1 h1
  have hl' : x.toNat < F.length := by have : x.toNat < (F.map (fctOf c)).length := hl; rwa [List.length_map] at this
  have hx : x = ((x.toNat : Nat) : Int) := (Int.toNat_of_nonneg h0).symm
  have hi := List.getElem?_eq_getElem hl'
  refine ⟨x.toNat, _, hx, hi, mem_sF.2 ⟨hs.mf _ (List.mem_of_getElem? hi), ?_⟩⟩
  rw [hx, less_fct hi] at h2
  exact h2
theorem sF_less {n i : Int} {j : Nat} (hi : F[j]? = some i) (h : i ∈ sF c q n) : (j : Int) ∈ sF (lessB c Cl F) q n := by
  obtain ⟨h1, h2⟩ := mem_sF.1 h
  obtain ⟨_, h3⟩ := mem_aF.1 h1
  refine mem_sF.2 ⟨mem_aF.2 ⟨⟨Int.natCast_nonneg j, ?_⟩, ?_⟩, ?_⟩
  · show (j : Int).toNat < (F.map (fctOf c)).length
    rw [Int.toNat_natCast, List.length_map]
    exact (List.getElem?_eq_some_iff.1 hi).1
  · rw [less_fct hi]
    exact h3
  · rw [less_fct hi]
    exact h2
theorem mv_is (l : List Fd) : isL (l.map (mvF Cl F)) = isL l := by
  funext n h
  unfold isL
  rw [List.any_map]
  rfl
theorem mv_asc : ∀ (l : List Fd) (d : Int), Asc d l → Asc d (l.map (mvF Cl F))
  | [], _, _ => trivial
  | f :: l, _, h => ⟨h.1, mv_asc l f.1 h.2⟩
theorem mv_last : ∀ (l : List Fd) (d : Int), lastS d (l.map (mvF Cl F)) = lastS d l
  | [], _ => rfl
  | f :: l, _ => mv_last l f.1
theorem neg_not (hs : Sub c q Cl F) : posI F (-1) = -1 ∧ posI Cl (-1) = -1 :=
  ⟨pos_not fun h => by have := (mem_aF.1 (hs.mf _ h)).1.1; omega, pos_not fun h => by have := (mem_aC.1 (hs.mc _ h)).1.1; omega⟩
/-- A finding is one of three. -/
theorem right_three {b : Bk} {is : Int → Bool → Bool} {f : Fd} (h : rightB b q is f = true) :
    (f = (f.1, false, -1, -1) ∧ (sF b q f.1).isEmpty = true ∧ ((sC b q f.1).all fun i => exB is (clsOf b i)) = true) ∨ (f = (f.1, true, f.2.2.1, -1) ∧ f.2.2.1 ∈ sF b q f.1) ∨ (f = (f.1, true, -1, f.2.2.2) ∧ f.2.2.2 ∈ sC b q f.1 ∧ okB is (clsOf b f.2.2.2) = true) := by
  unfold rightB at h
  split at h
  · rename_i e
    rw [Bool.and_eq_true] at h
    exact .inl ⟨e, h⟩
  · split at h
    · rename_i e
      exact .inr (.inl ⟨e, by simpa using h⟩)
    · split at h
      · rename_i e
        rw [Bool.and_eq_true] at h
        exact .inr (.inr ⟨e, by simpa using h.1, h.2⟩)
      · cases h
theorem right_no {b : Bk} {is : Int → Bool → Bool} {n : Int} (h1 : (sF b q n).isEmpty = true) (h2 : ((sC b q n).all fun i => exB is (clsOf b i)) = true) : rightB b q is (n, false, -1, -1) = true := by
  unfold rightB
  rw [if_pos rfl, Bool.and_eq_true]
  exact ⟨h1, h2⟩
theorem right_fact {b : Bk} {is : Int → Bool → Bool} {n i : Int} (h : i ∈ sF b q n) : rightB b q is (n, true, i, -1) = true := by
  unfold rightB
  rw [if_neg (by simp), if_pos rfl]
  simpa using h
theorem right_clause {b : Bk} {is : Int → Bool → Bool} {n i : Int} (h : i ∈ sC b q n) (ho : okB is (clsOf b i) = true) : rightB b q is (n, true, -1, i) = true := by
  have h0 := (mem_aC.1 (mem_sC.1 h).1).1.1
  unfold rightB
  rw [if_neg (by simp), if_neg (by simp; omega), if_pos rfl, Bool.and_eq_true]
  exact ⟨by simpa using h, ho⟩
/-- What it leans on applies. -/
theorem uses_sub (h20 : c.cls.length ≤ 20) {l : List Fd} (hr : ∀ f ∈ l, rightB c q (isL l) f = true) : Sub c q (usesL c q l).2 (usesL c q l).1 := by
  obtain ⟨m1, m2⟩ := uses_mem c q l
  obtain ⟨u1, u2⟩ := uses_up c q h20 l
  refine ⟨u2, u1, fun i hi => ?_, fun i hi => ?_⟩
  · obtain ⟨f, hf, h⟩ := (m2 i).1 hi
    rcases h with ⟨_, h⟩ | ⟨h1, h2, rfl⟩
    · exact (mem_sC.1 h).1
    · rcases right_three (hr f hf) with ⟨e, _⟩ | ⟨e, _⟩ | ⟨_, h, _⟩
      · rw [e] at h1; cases h1
      · rw [e] at h2; exact absurd rfl h2
      · exact (mem_sC.1 h).1
  · obtain ⟨f, hf, h1, h2, rfl⟩ := (m1 i).1 hi
    rcases right_three (hr f hf) with ⟨e, _⟩ | ⟨_, h⟩ | ⟨e, h, _⟩
    · rw [e] at h1; cases h1
    · exact (mem_sF.1 h).1
    · have := (mem_aC.1 (mem_sC.1 h).1).1.1; omega
theorem less_right {l : List Fd} (hs : Sub c q (usesL c q l).2 (usesL c q l).1) (hr : ∀ f ∈ l, rightB c q (isL l) f = true) : ∀ f ∈ l, rightB (lessB c (usesL c q l).2 (usesL c q l).1) q (isL l) (mvF (usesL c q l).2 (usesL c q l).1 f) = true := by
  intro f hf
  obtain ⟨m1, m2⟩ := uses_mem c q l
  obtain ⟨n1, n2⟩ := neg_not hs
  obtain ⟨n, h, x, i⟩ := f
  rcases right_three (hr _ hf) with ⟨e, h1, h2⟩ | ⟨e, h1⟩ | ⟨e, h1, h2⟩
  · cases e
    unfold mvF
    dsimp only
    rw [n1, n2]
    refine right_no ?_ ?_
    · rw [List.isEmpty_iff] at h1 ⊢
      refine List.eq_nil_iff_forall_not_mem.2 fun y hy => ?_
      obtain ⟨_, i, _, _, hi⟩ := less_sF hs hy
      dsimp only at h1
      rw [h1] at hi
      cases hi
    · rw [List.all_eq_true] at h2 ⊢
      intro y hy
      obtain ⟨j, i, rfl, hj, hi⟩ := less_sC hs hy
      rw [less_cls hj]
      exact h2 i hi
  · cases e
    unfold mvF
    dsimp only
    rw [n2]
    obtain ⟨k, hk, e⟩ := pos_mem hs.uf ((m1 x).2 ⟨_, hf, rfl, rfl, rfl⟩)
    rw [e]
    exact right_fact (sF_less hk h1)
  · cases e
    unfold mvF
    dsimp only
    dsimp only at h1 h2
    have h0 := (mem_aC.1 (mem_sC.1 h1).1).1.1
    rw [n1]
    obtain ⟨k, hk, e⟩ := pos_mem hs.uc ((m2 i).2 ⟨_, hf, .inr ⟨rfl, by dsimp only; omega, rfl⟩⟩)
    rw [e]
    exact right_clause (sC_less hs hk h1) (by rw [less_cls hk]; exact h2)
theorem sub_len (hs : Sub c q Cl F) : Cl.length ≤ c.cls.length ∧ F.length ≤ c.fct.length :=
  ⟨up_len (a := 0) hs.uc fun y hy => by have := (mem_aC.1 (hs.mc y hy)).1; omega, up_len (a := 0) hs.uf fun y hy => by have := (mem_aF.1 (hs.mf y hy)).1; omega⟩
theorem less_valid (hv : validB c = true) (hs : Sub c q Cl F) : validB (lessB c Cl F) = true := by
  obtain ⟨l1, l2⟩ := sub_len hs
  have hv' := hv
  simp only [validB, Bool.and_eq_true, decide_eq_true_eq, List.all_eq_true] at hv' ⊢
  obtain ⟨⟨⟨⟨⟨v1, v2⟩, v3⟩, v4⟩, v5⟩, v6⟩ := hv'
  refine ⟨⟨⟨⟨⟨?_, ?_⟩, ?_⟩, fun y hy => ?_⟩, fun r hr => ?_⟩, fun y hy => ?_⟩
  · show (Cl.map _).length ≤ 20
    rw [List.length_map]; omega
  · have : (c.rpl.filterMap (lessR Cl)).length ≤ c.rpl.length := List.length_filterMap_le ..
    exact Nat.le_trans this v2
  · show (F.map _).length ≤ 20
    rw [List.length_map]; omega
  · obtain ⟨i, hi, rfl⟩ := List.mem_map.1 (show y ∈ Cl.map (clsOf c) from hy)
    exact v4 _ (clsOf_mem (hs.mc i hi))
  · obtain ⟨r0, hr0, he⟩ := List.mem_filterMap.1 (show r ∈ c.rpl.filterMap (lessR Cl) from hr)
    have v := v5 r0 hr0
    unfold lessR at he
    split at he
    · rename_i h0
      cases he
      obtain ⟨k, hk, e⟩ := pos_mem hs.uc (pos_in h0)
      have hkl := (List.getElem?_eq_some_iff.1 hk).1
      unfold rplB at v ⊢
      simp only [Bool.and_eq_true, decide_eq_true_eq] at v ⊢
      refine ⟨⟨⟨h0, ?_⟩, v.1.2⟩, v.2⟩
      show posI Cl r0.clause < ((Cl.map _).length : Int)
      rw [List.length_map, e]
      omega
    · cases he
  · obtain ⟨i, hi, rfl⟩ := List.mem_map.1 (show y ∈ F.map (fctOf c) from hy)
    obtain ⟨⟨_, h1⟩, _⟩ := mem_aF.1 (hs.mf i hi)
    unfold fctOf
    rw [List.getElem?_eq_getElem h1]
    exact v6 _ (List.getElem_mem h1)
end
/-- The rules that it leans on prove the same. -/
theorem less_all {c : Bk} {q : Qn} {l : List Fd} (hv : validB c = true) (hq : asksB q = true) (hp : provesB c q l q.says = true) :
    Sub c q (usesL c q l).2 (usesL c q l).1 ∧ validB (lessB c (usesL c q l).2 (usesL c q l).1) = true ∧ soB (lessB c (usesL c q l).2 (usesL c q l).1) q q.says = soB c q q.says ∧ provesB (lessB c (usesL c q l).2 (usesL c q l).1) q (l.map (mvF (usesL c q l).2 (usesL c q l).1)) q.says = true := by
  obtain ⟨⟨h1, h2⟩, h3⟩ := (provesB_iff (low_of hv)).1 hp
  have h20 : c.cls.length ≤ 20 := (lens_of hv).1
  have hs := uses_sub h20 h2
  have hlv := less_valid hv hs
  have hr := less_right hs h2
  generalize (usesL c q l).2 = Cl at *
  generalize (usesL c q l).1 = F at *
  have hpr : provesB (lessB c Cl F) q (l.map (mvF Cl F)) q.says = true := by
    refine (provesB_iff (low_of hlv)).2 ⟨⟨mv_asc l _ h1, fun f hf => ?_⟩, by rw [mv_last]; exact h3⟩
    obtain ⟨g, hg, rfl⟩ := List.mem_map.1 hf
    rw [mv_is]
    exact hr g hg
  refine ⟨hs, hlv, ?_, hpr⟩
  obtain ⟨s0, s1⟩ := says_of hq
  obtain ⟨k, f, _, hk, _, hn⟩ := proves_ne s0 hp
  have e1 := proves_so (low_of hv) s1 hp f (List.mem_of_getElem? hk)
  have e2 := proves_so (low_of hlv) s1 hpr (mvF Cl F f) (List.mem_map.2 ⟨f, List.mem_of_getElem? hk, rfl⟩)
  have e3 : (mvF Cl F f).2.1 = f.2.1 := rfl
  have e4 : (mvF Cl F f).1 = f.1 := rfl
  rw [e3, e4, hn] at e2
  rw [hn] at e1
  rw [← e1, ← e2]
end Go.Proofs.Ytiglkecmamnphaa
