/- The spell of most sources: what it is, that it is one, and that a scan over ascending changes finds it. -/
namespace Go.Proofs.Ytjhcdkllneeijaa

/-- How many spells a second is in. -/
def inN (l : List (Int × Int)) (s : Int) : Nat := l.countP (fun p => decide (p.1 ≤ s) && decide (s < p.2))
/-- What Agree says: from f to t, in k spells. -/
def Agr (l : List (Int × Int)) (f t k : Int) : Prop :=
  (k = 0 ∧ f = 0 ∧ t = 0 ∧ ∀ s, inN l s = 0) ∨
  (0 < k ∧ f < t ∧ (∀ s, (inN l s : Int) ≤ k) ∧ (∀ s, s < f → (inN l s : Int) < k) ∧ (∀ s, f ≤ s → s < t → (inN l s : Int) = k) ∧ (inN l t : Int) < k)
theorem Agr.one {l : List (Int × Int)} {f t k f' t' k' : Int} (h : Agr l f t k) (h' : Agr l f' t' k') : f = f' ∧ t = t' ∧ k = k' := by
  rcases h with ⟨rfl, rfl, rfl, h⟩ | ⟨a0, a1, a2, a3, a4, a5⟩
  · rcases h' with ⟨rfl, rfl, rfl, _⟩ | ⟨b0, b1, b2, b3, b4, b5⟩
    · exact ⟨rfl, rfl, rfl⟩
    · have := b4 f' (Int.le_refl _) b1
      rw [h f'] at this; omega
  · rcases h' with ⟨rfl, rfl, rfl, h⟩ | ⟨b0, b1, b2, b3, b4, b5⟩
    · have := a4 f (Int.le_refl _) a1
      rw [h f] at this; omega
    · have c1 := a4 f (Int.le_refl _) a1
      have c2 := b4 f' (Int.le_refl _) b1
      have c3 := a2 f'
      have c4 := b2 f
      have hk : k = k' := by omega
      subst hk
      have hf : f = f' := by
        rcases Int.lt_trichotomy f f' with h | h | h
        · have := b3 f h; omega
        · exact h
        · have := a3 f' h; omega
      subst hf
      refine ⟨rfl, ?_, rfl⟩
      rcases Int.lt_trichotomy t t' with h | h | h
      · have := b4 t (by omega) h; omega
      · exact h
      · have := a4 t' (by omega) h; omega

/-- The sum of the changes up to a second. -/
def sumTo (c : List (Int × Int)) (s : Int) : Int := (c.map (fun p => if p.1 ≤ s then p.2 else 0)).sum
theorem sumTo_perm {c c' : List (Int × Int)} (h : c.Perm c') (s : Int) : sumTo c s = sumTo c' s := by
  induction h with
  | nil => rfl
  | cons x _ ih => simp only [sumTo, List.map_cons, List.sum_cons] at ih ⊢; omega
  | swap x y l => simp only [sumTo, List.map_cons, List.sum_cons]; omega
  | trans _ _ h1 h2 => exact h1.trans h2
theorem sumTo_app (a b : List (Int × Int)) (s : Int) : sumTo (a ++ b) s = sumTo a s + sumTo b s := by simp [sumTo]
theorem sumTo_all {a : List (Int × Int)} {s : Int} (h : ∀ p ∈ a, p.1 ≤ s) : sumTo a s = (a.map Prod.snd).sum := by
  induction a with
  | nil => rfl
  | cons x xs ih =>
    have h1 := h x (by simp)
    have h2 := ih (fun p hp => h p (by simp [hp]))
    simp only [sumTo, List.map_cons, List.sum_cons] at h2 ⊢
    rw [if_pos h1, h2]
theorem sumTo_none {a : List (Int × Int)} {s : Int} (h : ∀ p ∈ a, s < p.1) : sumTo a s = 0 := by
  induction a with
  | nil => rfl
  | cons x xs ih =>
    have h1 := h x (by simp)
    have h2 := ih (fun p hp => h p (by simp [hp]))
    simp only [sumTo, List.map_cons, List.sum_cons] at h2 ⊢
    rw [if_neg (by omega), h2]; rfl

/-- The changes that spells make. -/
def chs : List (Int × Int) → List (Int × Int)
  | [] => []
  | p :: l => if p.1 < p.2 then (p.1, 1) :: (p.2, -1) :: chs l else chs l
theorem sumTo_chs (l : List (Int × Int)) (s : Int) : sumTo (chs l) s = inN l s := by
  induction l with
  | nil => rfl
  | cons p l ih =>
    unfold inN at ih ⊢
    rw [List.countP_cons, chs]
    by_cases h : p.1 < p.2
    · rw [if_pos h]
      simp only [sumTo, List.map_cons, List.sum_cons] at ih ⊢
      rw [ih]
      by_cases h1 : p.1 ≤ s
      · by_cases h2 : s < p.2
        · simp [h1, h2, show ¬ p.2 ≤ s by omega]; omega
        · simp [h1, h2, show p.2 ≤ s by omega]; omega
      · simp [h1, show ¬ p.2 ≤ s by omega]
    · rw [if_neg h, ih]
      have : (decide (p.1 ≤ s) && decide (s < p.2)) = false := by
        simp only [Bool.and_eq_false_iff, decide_eq_false_iff_not]; omega
      simp [this]
theorem chs_len (l : List (Int × Int)) : (chs l).length ≤ 2 * l.length := by
  induction l with
  | nil => simp [chs]
  | cons p l ih => rw [chs]; split <;> simp <;> omega
theorem chs_app (a b : List (Int × Int)) : chs (a ++ b) = chs a ++ chs b := by
  induction a with
  | nil => rfl
  | cons p a ih => rw [List.cons_append, chs, chs, ih]; split <;> rfl
theorem chs_small {l : List (Int × Int)} : ∀ p ∈ chs l, p.2 = 1 ∨ p.2 = -1 := by
  induction l with
  | nil => intro p h; cases h
  | cons q l ih =>
    intro p h
    rw [chs] at h
    split at h
    · rcases List.mem_cons.1 h with rfl | h
      · exact .inl rfl
      · rcases List.mem_cons.1 h with rfl | h
        · exact .inr rfl
        · exact ih p h
    · exact ih p h

/-- Ascending by their seconds. -/
def Asc (c : List (Int × Int)) : Prop := ∀ (i j : Nat) x y, i < j → c[i]? = some x → c[j]? = some y → x.1 ≤ y.1
/-- Seconds ahead of place i. -/
def Ahead (c : List (Int × Int)) (i : Nat) (s : Int) : Prop := ∀ x, c[i]? = some x → s < x.1
/-- The sum of the first i changes. -/
def part (c : List (Int × Int)) (i : Nat) : Int := ((c.take i).map Prod.snd).sum
theorem part_succ {c : List (Int × Int)} {i : Nat} {x : Int × Int} (h : c[i]? = some x) : part c (i + 1) = part c i + x.2 := by
  obtain ⟨h1, h2⟩ := List.getElem?_eq_some_iff.1 h
  rw [part, List.take_add_one, h]
  simp [part]
theorem sumTo_part {c : List (Int × Int)} (hc : Asc c) {i : Nat} {x : Int × Int} (h : c[i]? = some x) {s : Int} (h1 : x.1 ≤ s) (h2 : Ahead c (i + 1) s) : sumTo c s = part c (i + 1) := by
  have e : sumTo c s = sumTo (c.take (i + 1)) s + sumTo (c.drop (i + 1)) s := by rw [← sumTo_app, List.take_append_drop]
  rw [e, sumTo_all (fun p hp => ?_), sumTo_none (fun p hp => ?_)]
  · simp [part]
  · obtain ⟨j, hj, rfl⟩ := List.getElem_of_mem hp
    have hj' : (c.drop (i + 1))[j]? = some (c.drop (i + 1))[j] := List.getElem?_eq_getElem hj
    generalize (c.drop (i + 1))[j] = p at hj' hp ⊢
    rw [List.getElem?_drop] at hj'
    have hl : i + 1 < c.length := by rw [List.length_drop] at hj; omega
    obtain ⟨y, hy⟩ : ∃ y, c[i + 1]? = some y := ⟨c[i + 1], by simp⟩
    have h3 := h2 y hy
    by_cases h0 : j = 0
    · subst h0
      rw [Nat.add_zero, hy] at hj'
      cases hj'; exact h3
    · have := hc (i + 1) (i + 1 + j) y p (by omega) hy hj'
      omega
  · obtain ⟨j, hj, rfl⟩ := List.getElem_of_mem hp
    have hj' : (c.take (i + 1))[j]? = some (c.take (i + 1))[j] := List.getElem?_eq_getElem hj
    generalize (c.take (i + 1))[j] = p at hj' hp ⊢
    rw [List.length_take] at hj
    rw [List.getElem?_take_of_lt (by omega)] at hj'
    by_cases h0 : j = i
    · subst h0
      rw [h] at hj'
      cases hj'; exact h1
    · have := hc j i p x (by omega) hj' h
      omega

/-- The scan, ahead of place i. -/
structure Scan (c : List (Int × Int)) (i : Nat) (now most f t : Int) (o : Bool) : Prop where
  hnow : now = part c i
  hmost : 0 ≤ most
  htop : ∀ s, Ahead c i s → sumTo c s ≤ most
  hnone : most = 0 → o = false ∧ f = 0 ∧ t = 0
  hsome : 0 < most → sumTo c f = most ∧ Ahead c i f ∧ (∀ s, s < f → sumTo c s < most)
  hgo : 0 < most → o = true → ∀ s, f ≤ s → Ahead c i s → sumTo c s = most
  hshut : 0 < most → o = false → f < t ∧ (∀ s, f ≤ s → s < t → sumTo c s = most) ∧ sumTo c t < most
theorem Scan.first {c : List (Int × Int)} (hc : Asc c) : Scan c 0 0 0 0 0 false :=
  ⟨by simp [part], Int.le_refl _, fun s h => by
    rw [sumTo_none (fun p hp => ?_)]
    · omega
    · obtain ⟨j, hj, rfl⟩ := List.getElem_of_mem hp
      obtain ⟨y, hy⟩ : ∃ y, c[0]? = some y := ⟨c[0]'(by omega), by simp⟩
      have h3 := h y hy
      by_cases h0 : j = 0
      · subst h0
        rw [List.getElem?_eq_getElem (by omega)] at hy
        cases hy; exact h3
      · have := hc 0 j y c[j] (by omega) hy (by simp)
        omega, fun _ => ⟨rfl, rfl, rfl⟩, fun h => by omega, fun h => by omega, fun h => by omega⟩
section
variable {c : List (Int × Int)} {i : Nat} {now most f t : Int} {o : Bool} {x : Int × Int}
theorem Ahead.next (hc : Asc c) (hx : c[i]? = some x) {s : Int} (h : Ahead c i s) : Ahead c (i + 1) s := fun y hy => by
  have := hc i (i + 1) x y (by omega) hx hy
  have := h x hx
  omega
/-- The next change is at the same second. -/
theorem Scan.skip (h : Scan c i now most f t o) (hx : c[i]? = some x) {y : Int × Int} (hy : c[i + 1]? = some y) (he : y.1 = x.1) : Scan c (i + 1) (now + x.2) most f t o := by
  have ha : ∀ s, Ahead c (i + 1) s → Ahead c i s := fun s hs z hz => by
    rw [hx] at hz; cases hz
    have := hs y hy; omega
  have hb : ∀ s, Ahead c i s → Ahead c (i + 1) s := fun s hs z hz => by
    rw [hy] at hz; cases hz
    have := hs x hx; omega
  exact ⟨by rw [part_succ hx, h.hnow], h.hmost, fun s hs => h.htop s (ha s hs), h.hnone, fun h0 => ⟨(h.hsome h0).1, hb _ (h.hsome h0).2.1, (h.hsome h0).2.2⟩, fun h0 h1 s h2 h3 => h.hgo h0 h1 s h2 (ha s h3), h.hshut⟩
theorem Scan.last (hn : ∀ y, c[i + 1]? = some y → x.1 < y.1) : Ahead c (i + 1) x.1 := fun y hy => hn y hy
theorem Scan.split (hx : c[i]? = some x) {s : Int} : Ahead c i s ∨ x.1 ≤ s := by
  by_cases h : s < x.1
  · exact .inl fun y hy => by rw [hx] at hy; cases hy; exact h
  · exact .inr (by omega)
theorem Scan.up (h : Scan c i now most f t o) (hc : Asc c) (hx : c[i]? = some x) (hn : ∀ y, c[i + 1]? = some y → x.1 < y.1) (hm : most < now + x.2) : Scan c (i + 1) (now + x.2) (now + x.2) x.1 t true := by
  have e : now + x.2 = part c (i + 1) := by rw [part_succ hx, h.hnow]
  have hp : ∀ s, x.1 ≤ s → Ahead c (i + 1) s → sumTo c s = now + x.2 := fun s h1 h2 => by rw [e]; exact sumTo_part hc hx h1 h2
  have h0 := h.hmost
  refine ⟨e, by omega, fun s hs => ?_, fun h => by omega, fun _ => ⟨hp _ (Int.le_refl _) hn, hn, fun s hs => ?_⟩, fun _ _ s h1 h2 => hp s h1 h2, fun _ h => by cases h⟩
  · rcases Scan.split hx (s := s) with h1 | h1
    · have := h.htop s h1; omega
    · have := hp s h1 hs; omega
  · rcases Scan.split hx (s := s) with h1 | h1
    · have := h.htop s h1; omega
    · omega
theorem Scan.down (h : Scan c i now most f t true) (hc : Asc c) (hx : c[i]? = some x) (hn : ∀ y, c[i + 1]? = some y → x.1 < y.1) (hm : now + x.2 < most) : Scan c (i + 1) (now + x.2) most f x.1 false := by
  have e : now + x.2 = part c (i + 1) := by rw [part_succ hx, h.hnow]
  have hp : ∀ s, x.1 ≤ s → Ahead c (i + 1) s → sumTo c s = now + x.2 := fun s h1 h2 => by rw [e]; exact sumTo_part hc hx h1 h2
  have h0 := h.hmost
  have h1 : 0 < most := by
    rcases Int.lt_or_eq_of_le h0 with h1 | h1
    · exact h1
    · cases (h.hnone h1.symm).1
  obtain ⟨a, b, d⟩ := h.hsome h1
  refine ⟨e, h0, fun s hs => ?_, fun h => by omega, fun _ => ⟨a, b.next hc hx, d⟩, fun _ h => (by cases h), fun _ _ => ⟨b x hx, fun s h2 h3 => h.hgo h1 rfl s h2 (fun y hy => by rw [hx] at hy; cases hy; exact h3), by rw [hp _ (Int.le_refl _) hn]; exact hm⟩⟩
  rcases Scan.split hx (s := s) with h2 | h2
  · exact h.htop s h2
  · have := hp s h2 hs; omega
theorem Scan.stay (h : Scan c i now most f t o) (hc : Asc c) (hx : c[i]? = some x) (hm : now + x.2 ≤ most) (ho : o = true → now + x.2 = most) : Scan c (i + 1) (now + x.2) most f t o := by
  have e : now + x.2 = part c (i + 1) := by rw [part_succ hx, h.hnow]
  have hp : ∀ s, x.1 ≤ s → Ahead c (i + 1) s → sumTo c s = now + x.2 := fun s h1 h2 => by rw [e]; exact sumTo_part hc hx h1 h2
  refine ⟨e, h.hmost, fun s hs => ?_, h.hnone, fun h0 => ⟨(h.hsome h0).1, (h.hsome h0).2.1.next hc hx, (h.hsome h0).2.2⟩, fun h0 h1 s h2 h3 => ?_, h.hshut⟩
  · rcases Scan.split hx (s := s) with h2 | h2
    · exact h.htop s h2
    · have := hp s h2 hs; omega
  · rcases Scan.split hx (s := s) with h4 | h4
    · exact h.hgo h0 h1 s h2 h4
    · rw [hp s h4 h3]; exact ho h1
end
theorem far_zero (l : List (Int × Int)) : ∃ S : Int, ∀ s, S ≤ s → inN l s = 0 := by
  induction l with
  | nil => exact ⟨0, fun _ _ => rfl⟩
  | cons p l ih =>
    obtain ⟨S, hS⟩ := ih
    refine ⟨max S p.2, fun s hs => ?_⟩
    have h1 := hS s (by omega)
    unfold inN at h1 ⊢
    rw [List.countP_cons, h1]
    have : (decide (p.1 ≤ s) && decide (s < p.2)) = false := by
      simp only [Bool.and_eq_false_iff, decide_eq_false_iff_not]; omega
    simp [this]
theorem Scan.done {l c : List (Int × Int)} (hp : (chs l).Perm c) {now most f t : Int} {o : Bool} (h : Scan c c.length now most f t o) : Agr l f t most := by
  have hs : ∀ s, sumTo c s = inN l s := fun s => by rw [← sumTo_perm hp, sumTo_chs]
  have ha : ∀ s, Ahead c c.length s := fun s x hx => by simp at hx
  have h0 := h.hmost
  rcases Int.lt_or_eq_of_le h0 with h1 | h1
  · refine .inr ?_
    obtain ⟨a, _, b⟩ := h.hsome h1
    cases o with
    | true =>
      obtain ⟨S, hS⟩ := far_zero l
      have := h.hgo h1 rfl (max S f) (by omega) (ha _)
      rw [hs, hS _ (by omega)] at this
      omega
    | false =>
      obtain ⟨c1, c2, c3⟩ := h.hshut h1 rfl
      exact ⟨h1, c1, fun s => by rw [← hs]; exact h.htop s (ha s), fun s hh => by rw [← hs]; exact b s hh, fun s g1 g2 => by rw [← hs]; exact c2 s g1 g2, by rw [← hs]; exact c3⟩
  · obtain ⟨_, hf, ht⟩ := h.hnone h1.symm
    exact .inl ⟨h1.symm, hf, ht, fun s => by have := h.htop s (ha s); rw [hs] at this; omega⟩
theorem part_small {l c : List (Int × Int)} (hp : (chs l).Perm c) (i : Nat) : -(i : Int) ≤ part c i ∧ part c i ≤ i := by
  induction i with
  | zero => simp [part]
  | succ i ih =>
    cases hx : c[i]? with
    | some x =>
      have := chs_small x (hp.mem_iff.2 (List.mem_of_getElem? hx))
      rw [part_succ hx]; omega
    | none =>
      have : part c (i + 1) = part c i := by
        unfold part
        rw [List.take_of_length_le (by simp at hx; omega), List.take_of_length_le (by simp at hx; omega)]
      rw [this]; omega
end Go.Proofs.Ytjhcdkllneeijaa
