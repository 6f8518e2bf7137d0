/- Bounds, chains and least sums: the plain facts. -/
namespace Go.Proofs.Ytkeimfkaoianmaa

abbrev Bn := Int × Int × Int
def farI : Int := 1152921504606846976
/-- What the bounds make of a row's sums at v, beginning at a. -/
def extStep (r : Int → Int) (v : Int) (a : Int) (c : Bn) : Int := if c.2.1 = v ∧ r c.1 ≠ farI then min a (r c.1 + c.2.2) else a
def ext (bs : List Bn) (r : Int → Int) (v : Int) (a : Int) : Int := bs.foldl (extStep r v) a
def z0 (u v : Int) : Int := if u = v then 0 else farI
/-- Least sums of chains of at most k bounds; of exactly k bounds. -/
def tb (bs : List Bn) : Nat → Int → Int → Int
  | 0, u, v => z0 u v
  | k + 1, u, v => ext bs (tb bs k u) v (z0 u v)
def ex (bs : List Bn) : Nat → Int → Int → Int
  | 0, u, v => z0 u v
  | k + 1, u, v => ext bs (ex bs k u) v farI

inductive Way (bs : List Bn) : Int → List Nat → Int → Int → Prop
  | nil (u : Int) : Way bs u [] u 0
  | cons {u : Int} {i : Nat} {c : Bn} {l : List Nat} {v s : Int} (hi : bs[i]? = some c) (hu : c.1 = u) (h : Way bs c.2.1 l v s) : Way bs u (i :: l) v (c.2.2 + s)

def Okb (n : Int) (bs : List Bn) : Prop := ∀ c ∈ bs, (0 ≤ c.1 ∧ c.1 < n) ∧ (0 ≤ c.2.1 ∧ c.2.1 < n) ∧ -1000000000 ≤ c.2.2 ∧ c.2.2 ≤ 1000000000
theorem Okb.at {n : Int} {bs : List Bn} (h : Okb n bs) {i : Nat} {c : Bn} (hi : bs[i]? = some c) : (0 ≤ c.1 ∧ c.1 < n) ∧ (0 ≤ c.2.1 ∧ c.2.1 < n) ∧ -1000000000 ≤ c.2.2 ∧ c.2.2 ≤ 1000000000 := h c (List.mem_of_getElem? hi)

section ext
theorem ext_nil (r : Int → Int) (v a : Int) : ext [] r v a = a := rfl
theorem ext_cons (c : Bn) (bs : List Bn) (r : Int → Int) (v a : Int) : ext (c :: bs) r v a = ext bs r v (extStep r v a c) := rfl
theorem ext_snoc (bs : List Bn) (c : Bn) (r : Int → Int) (v a : Int) : ext (bs ++ [c]) r v a = extStep r v (ext bs r v a) c := by simp [ext]
theorem extStep_le (r : Int → Int) (v a : Int) (c : Bn) : extStep r v a c ≤ a := by unfold extStep; split <;> omega
theorem ext_le (bs : List Bn) (r : Int → Int) (v a : Int) : ext bs r v a ≤ a := by
  induction bs generalizing a with
  | nil => exact Int.le_refl _
  | cons c bs ih => exact Int.le_trans (ih _) (extStep_le _ _ _ _)
theorem ext_mem {bs : List Bn} {r : Int → Int} {v : Int} {c : Bn} (h : c ∈ bs) (hv : c.2.1 = v) (hr : r c.1 ≠ farI) (a : Int) : ext bs r v a ≤ r c.1 + c.2.2 := by
  induction bs generalizing a with
  | nil => cases h
  | cons d bs ih =>
    rw [ext_cons]
    rcases List.mem_cons.1 h with rfl | h
    · refine Int.le_trans (ext_le _ _ _ _) ?_
      rw [extStep, if_pos ⟨hv, hr⟩]; omega
    · exact ih h _
theorem ext_cases (bs : List Bn) (r : Int → Int) (v a : Int) : ext bs r v a = a ∨ ∃ c ∈ bs, c.2.1 = v ∧ r c.1 ≠ farI ∧ ext bs r v a = r c.1 + c.2.2 := by
  induction bs generalizing a with
  | nil => exact .inl rfl
  | cons d bs ih =>
    rw [ext_cons]
    rcases ih (extStep r v a d) with h | ⟨c, hc, h1, h2, h3⟩
    · rw [h, extStep]
      split
      · rename_i hd
        rcases Int.le_total a (r d.1 + d.2.2) with h | h
        · rw [Int.min_eq_left h]; exact .inl rfl
        · rw [Int.min_eq_right h]; exact .inr ⟨d, List.mem_cons_self, hd.1, hd.2, rfl⟩
      · exact .inl rfl
    · exact .inr ⟨c, List.mem_cons_of_mem _ hc, h1, h2, h3⟩
end ext

theorem z0_le (u v : Int) : z0 u v ≤ farI := by unfold z0 farI; split <;> omega
theorem tb_le (bs : List Bn) (k : Nat) (u v : Int) : tb bs k u v ≤ z0 u v := by
  cases k with
  | zero => exact Int.le_refl _
  | succ k => exact ext_le _ _ _ _
theorem tb_far (bs : List Bn) (k : Nat) (u v : Int) : tb bs k u v ≤ farI := Int.le_trans (tb_le _ _ _ _) (z0_le _ _)
theorem ex_far (bs : List Bn) (k : Nat) (u v : Int) : ex bs k u v ≤ farI := by
  cases k with
  | zero => exact z0_le _ _
  | succ k => exact ext_le _ _ _ _

section way
variable {bs : List Bn}
theorem Way.append {u v x s t : Int} {l m : List Nat} (h : Way bs u l v s) (k : Way bs v m x t) : Way bs u (l ++ m) x (s + t) := by
  induction h with
  | nil u => simpa using k
  | cons hi hu h ih => rw [List.cons_append, Int.add_assoc]; exact .cons hi hu (ih k)
theorem Way.split {l m : List Nat} : ∀ {u x r : Int}, Way bs u (l ++ m) x r → ∃ v s t, Way bs u l v s ∧ Way bs v m x t ∧ r = s + t := by
  induction l with
  | nil => exact fun {u x r} h => ⟨u, 0, r, .nil _, h, by omega⟩
  | cons i l ih =>
    intro u x r h
    cases h with
    | cons hi hu h =>
      obtain ⟨v, s, t, h1, h2, h3⟩ := ih h
      exact ⟨v, _, t, .cons hi hu h1, h2, by omega⟩
theorem Way.det {u v v' s s' : Int} {l : List Nat} (h : Way bs u l v s) (k : Way bs u l v' s') : v' = v ∧ s' = s := by
  induction h generalizing v' s' with
  | nil u => cases k; exact ⟨rfl, rfl⟩
  | cons hi hu h ih =>
    cases k with
    | cons hi' hu' k =>
      rw [hi] at hi'; cases hi'
      obtain ⟨a, b⟩ := ih k
      exact ⟨a, by omega⟩
theorem Way.one {i : Nat} {c : Bn} (hi : bs[i]? = some c) : Way bs c.1 [i] c.2.1 c.2.2 := by
  have := Way.cons hi rfl (Way.nil c.2.1 (bs := bs)); simpa using this
theorem Way.bd {n : Int} (ho : Okb n bs) {u v s : Int} {l : List Nat} (h : Way bs u l v s) : -(1000000000 * (l.length : Int)) ≤ s ∧ s ≤ 1000000000 * (l.length : Int) := by
  induction h with
  | nil u => simp
  | cons hi hu h ih =>
    have := ho.at hi
    rw [List.length_cons]
    omega
theorem Way.end_in {n : Int} (ho : Okb n bs) {u v s : Int} {l : List Nat} (h : Way bs u l v s) (h0 : 0 ≤ u) (h1 : u < n) : 0 ≤ v ∧ v < n := by
  induction h with
  | nil u => exact ⟨h0, h1⟩
  | cons hi hu h ih => have := ho.at hi; exact ih this.2.1.1 this.2.1.2
/-- A potential bounds every chain's sum. -/
theorem Way.pot {x : Int → Int} (hx : ∀ c ∈ bs, x c.2.1 - x c.1 ≤ c.2.2) {u v s : Int} {l : List Nat} (h : Way bs u l v s) : x v - x u ≤ s := by
  induction h with
  | nil u => omega
  | cons hi hu h ih => have := hx _ (List.mem_of_getElem? hi); subst hu; omega

theorem tb_way (k : Nat) : ∀ {u v : Int}, tb bs k u v ≠ farI → ∃ l, l.length ≤ k ∧ Way bs u l v (tb bs k u v) := by
  induction k with
  | zero =>
    intro u v h
    unfold tb z0 at h ⊢
    split at h
    · rename_i e; subst e; rw [if_pos rfl]; exact ⟨[], by simp, .nil _⟩
    · exact absurd rfl h
  | succ k ih =>
    intro u v h
    unfold tb at h ⊢
    rcases ext_cases bs (tb bs k u) v (z0 u v) with e | ⟨c, hc, hv, hr, e⟩
    · rw [e] at h ⊢
      unfold z0 at h ⊢
      split at h
      · rename_i e; subst e; rw [if_pos rfl]; exact ⟨[], by simp, .nil _⟩
      · exact absurd rfl h
    · rw [e]
      obtain ⟨l, hl, hw⟩ := ih hr
      obtain ⟨i, hi⟩ := List.getElem?_of_mem hc
      subst hv
      exact ⟨l ++ [i], by simp; omega, hw.append (.one hi)⟩
theorem ex_way (k : Nat) : ∀ {u v : Int}, ex bs k u v ≠ farI → ∃ l, l.length = k ∧ Way bs u l v (ex bs k u v) := by
  induction k with
  | zero =>
    intro u v h
    unfold ex z0 at h ⊢
    split at h
    · rename_i e; subst e; rw [if_pos rfl]; exact ⟨[], by simp, .nil _⟩
    · exact absurd rfl h
  | succ k ih =>
    intro u v h
    unfold ex at h ⊢
    rcases ext_cases bs (ex bs k u) v farI with e | ⟨c, hc, hv, hr, e⟩
    · exact absurd e h
    · rw [e]
      obtain ⟨l, hl, hw⟩ := ih hr
      obtain ⟨i, hi⟩ := List.getElem?_of_mem hc
      subst hv
      exact ⟨l ++ [i], by simp; omega, hw.append (.one hi)⟩

theorem snoc_cases {α : Type} (l : List α) : l = [] ∨ ∃ m a, l = m ++ [a] := by
  rcases List.eq_nil_or_concat l with h | ⟨m, a, h⟩
  · exact .inl h
  · exact .inr ⟨m, a, by simpa using h⟩
theorem way_ex {n : Int} (ho : Okb n bs) : ∀ (k : Nat) {u v s : Int} {l : List Nat}, k ≤ 1000 → l.length = k → Way bs u l v s → ex bs k u v ≤ s := by
  intro k
  induction k with
  | zero =>
    intro u v s l hk hl h
    obtain rfl : l = [] := List.eq_nil_of_length_eq_zero hl
    cases h
    simp [ex, z0]
  | succ k ih =>
    intro u v s l hk hl h
    rcases snoc_cases l with rfl | ⟨m, i, rfl⟩
    · simp at hl
    · obtain ⟨x, s1, t, h1, h2, rfl⟩ := h.split
      have hm : m.length = k := by simpa using hl
      have h3 := ih (by omega) hm h1
      have hb := h1.bd ho
      cases h2 with
      | cons hi hu h2 =>
        cases h2
        subst hu
        have := ext_mem (List.mem_of_getElem? hi) rfl (r := ex bs k u) (by unfold farI; omega) farI
        unfold ex
        omega
theorem way_tb {n : Int} (ho : Okb n bs) : ∀ (k : Nat) {u v s : Int} {l : List Nat}, k ≤ 1000 → l.length ≤ k → Way bs u l v s → tb bs k u v ≤ s := by
  intro k
  induction k with
  | zero =>
    intro u v s l hk hl h
    obtain rfl : l = [] := List.eq_nil_of_length_eq_zero (by omega)
    cases h
    simp [tb, z0]
  | succ k ih =>
    intro u v s l hk hl h
    rcases snoc_cases l with rfl | ⟨m, i, rfl⟩
    · cases h
      have := tb_le bs (k + 1) u u
      simpa [z0] using this
    · obtain ⟨x, s1, t, h1, h2, rfl⟩ := h.split
      have hm : m.length ≤ k := by simpa using hl
      have h3 := ih (by omega) hm h1
      have hb := h1.bd ho
      cases h2 with
      | cons hi hu h2 =>
        cases h2
        subst hu
        unfold tb
        exact Int.le_trans (ext_mem (List.mem_of_getElem? hi) rfl (by unfold farI; omega) _) (by omega)
theorem tb_bd {n : Int} (ho : Okb n bs) {k : Nat} {u v : Int} (h : tb bs k u v ≠ farI) : -(1000000000 * (k : Int)) ≤ tb bs k u v ∧ tb bs k u v ≤ 1000000000 * (k : Int) := by
  obtain ⟨l, hl, hw⟩ := tb_way k h
  have := hw.bd ho
  omega
theorem tb_mono {n : Int} (ho : Okb n bs) {k m : Nat} (h : k ≤ m) (hm : m ≤ 1000) (u v : Int) : tb bs m u v ≤ tb bs k u v := by
  by_cases hf : tb bs k u v = farI
  · rw [hf]; exact tb_far _ _ _ _
  · obtain ⟨l, hl, hw⟩ := tb_way k hf
    exact way_tb ho m hm (by omega) hw
end way

section simple
variable {bs : List Bn}
/-- A contradiction. -/
def Bad (bs : List Bn) (l : List Nat) : Prop := ∃ u s, Way bs u l u s ∧ s < 0
theorem Bad.ne {l : List Nat} (h : Bad bs l) : l ≠ [] := by
  rintro rfl
  obtain ⟨u, s, h, hs⟩ := h
  cases h; omega
/-- The variables from which the bounds of a chain lead. -/
def frs (bs : List Bn) (l : List Nat) : List Int := l.map fun i => ((bs[i]?).map (·.1)).getD 0
theorem frs_append (l m : List Nat) : frs bs (l ++ m) = frs bs l ++ frs bs m := by simp [frs]
theorem nodup_le {α : Type} [DecidableEq α] : ∀ {l m : List α}, l.Nodup → (∀ x ∈ l, x ∈ m) → l.length ≤ m.length
  | [], m, _, _ => by simp
  | a :: l, m, h, hs => by
    have ha := hs a List.mem_cons_self
    have := nodup_le (l := l) (m := m.erase a) (List.nodup_cons.1 h).2 (fun x hx => (List.mem_erase_of_ne (fun e => (List.nodup_cons.1 h).1 (by rw [← e]; exact hx))).2 (hs x (List.mem_cons_of_mem _ hx)))
    have h2 := List.length_erase_of_mem ha
    have h3 := List.length_pos_of_mem ha
    simp; omega
theorem len_pos {α : Type} {l : List α} (h : l ≠ []) : 0 < l.length := by
  cases l with
  | nil => exact absurd rfl h
  | cons a l => simp
theorem dup_split {α : Type} [DecidableEq α] : ∀ {l : List α}, ¬ l.Nodup → ∃ a x b c, l = a ++ x :: b ++ x :: c
  | [], h => absurd List.nodup_nil h
  | y :: l, h => by
    by_cases hy : y ∈ l
    · obtain ⟨b, c, e⟩ := List.append_of_mem hy
      exact ⟨[], y, b, c, by rw [e]; rfl⟩
    · obtain ⟨a, x, b, c, e⟩ := dup_split (l := l) (fun hn => h (List.nodup_cons.2 ⟨hy, hn⟩))
      exact ⟨y :: a, x, b, c, by rw [e]; rfl⟩
theorem Way.head_fr {u v s : Int} {i : Nat} {l : List Nat} (h : Way bs u (i :: l) v s) : ((bs[i]?).map (·.1)).getD 0 = u := by
  cases h with | cons hi hu h => rw [hi]; exact hu
/-- A chain that comes twice by a variable: it parts in three. -/
theorem Way.loop {u v s : Int} {l : List Nat} (h : Way bs u l v s) (hd : ¬ (frs bs l).Nodup) :
    ∃ a b c x s1 s2 s3, l = a ++ b ++ c ∧ b ≠ [] ∧ c ≠ [] ∧ Way bs u a x s1 ∧ Way bs x b x s2 ∧ Way bs x c v s3 ∧ s = s1 + s2 + s3 := by
  obtain ⟨a, x, b, c, e⟩ := dup_split hd
  unfold frs at e
  rw [List.map_eq_append_iff] at e
  obtain ⟨l1, l2, rfl, e1, e2⟩ := e
  rw [List.map_eq_append_iff] at e1
  obtain ⟨la, lb, rfl, ea, eb⟩ := e1
  obtain ⟨ib, lb', rfl⟩ : ∃ i m, lb = i :: m := by cases lb with | nil => simp at eb | cons i m => exact ⟨i, m, rfl⟩
  obtain ⟨ic, lc', rfl⟩ : ∃ i m, l2 = i :: m := by cases l2 with | nil => simp at e2 | cons i m => exact ⟨i, m, rfl⟩
  rw [List.map_cons] at eb e2
  injection eb with eb1 eb2
  injection e2 with ec1 ec2
  obtain ⟨y, s12, s3, h12, h3, rfl⟩ := h.split
  obtain ⟨z, s1, s2, h1, h2, rfl⟩ := h12.split
  have hz := h2.head_fr
  have hy := h3.head_fr
  obtain rfl : z = x := by omega
  obtain rfl : y = z := by omega
  exact ⟨la, ib :: lb', ic :: lc', _, s1, s2, s3, rfl, by simp, by simp, h1, h2, h3, rfl⟩
/-- A contradiction with the fewest bounds comes by no variable twice. -/
theorem Bad.simple {l : List Nat} (h : Bad bs l) (hm : ∀ m, Bad bs m → l.length ≤ m.length) : (frs bs l).Nodup := by
  by_cases hd : (frs bs l).Nodup
  · exact hd
  · obtain ⟨u, s, hw, hs⟩ := h
    obtain ⟨a, b, c, x, s1, s2, s3, rfl, hb, hc, h1, h2, h3, rfl⟩ := hw.loop hd
    have lb := len_pos hb
    have lc := len_pos hc
    rcases Int.lt_or_le s2 0 with k | k
    · have := hm b ⟨x, s2, h2, k⟩; simp at this; omega
    · have := hm (a ++ c) ⟨u, s1 + s3, h1.append h3, by omega⟩; simp at this; omega
theorem least {α : Type} (P : List α → Prop) : ∀ (k : Nat) (l : List α), l.length ≤ k → P l → ∃ m, P m ∧ m.length ≤ l.length ∧ ∀ x, P x → m.length ≤ x.length
  | 0, l, hl, h => ⟨l, h, Nat.le_refl _, fun x _ => by omega⟩
  | k + 1, l, hl, h => by
    by_cases hx : ∃ x, P x ∧ x.length < l.length
    · obtain ⟨x, hp, hlt⟩ := hx
      obtain ⟨m, h1, h2, h3⟩ := least P k x (by omega) hp
      exact ⟨m, h1, by omega, h3⟩
    · exact ⟨l, h, Nat.le_refl _, fun x hp => by
        rcases Nat.lt_or_ge x.length l.length with k | k
        · exact absurd ⟨x, hp, k⟩ hx
        · exact k⟩
theorem Bad.least {l : List Nat} (h : Bad bs l) : ∃ m, Bad bs m ∧ m.length ≤ l.length ∧ ∀ x, Bad bs x → m.length ≤ x.length := Go.Proofs.Ytkeimfkaoianmaa.least (Bad bs) _ l (Nat.le_refl _) h
theorem Way.frs_mem {u v s : Int} {l : List Nat} (h : Way bs u l v s) : ∀ x ∈ frs bs l, ∃ c ∈ bs, c.1 = x := by
  induction h with
  | nil u => simp [frs]
  | cons hi hu h ih =>
    intro x hx
    rcases List.mem_cons.1 hx with e | hx
    · dsimp only at e; rw [hi] at e; exact ⟨_, List.mem_of_getElem? hi, e.symm⟩
    · exact ih x hx
theorem Way.simple_le {n : Nat} (ho : Okb n bs) {u v s : Int} {l : List Nat} (h : Way bs u l v s) (hd : (frs bs l).Nodup) : l.length ≤ n := by
  have := nodup_le hd (m := (List.range n).map fun (i : Nat) => (i : Int)) (fun x hx => by
    obtain ⟨c, hc, rfl⟩ := h.frs_mem x hx
    have := ho c hc
    exact List.mem_map.2 ⟨c.1.toNat, List.mem_range.2 (by omega), by omega⟩)
  simpa [frs] using this
/-- No contradiction. -/
def Fine (bs : List Bn) : Prop := ∀ l, ¬ Bad bs l
theorem Bad.small {n : Nat} (ho : Okb n bs) {l : List Nat} (h : Bad bs l) : ∃ m, Bad bs m ∧ m.length ≤ n ∧ m.length ≤ l.length ∧ ∀ x, Bad bs x → m.length ≤ x.length := by
  obtain ⟨m, h1, h2, h3⟩ := h.least
  have hs := h1.simple h3
  obtain ⟨u, s, hw, hlt⟩ := h1
  exact ⟨m, ⟨u, s, hw, hlt⟩, hw.simple_le ho hs, h2, h3⟩
theorem Bad.tb {n : Nat} (ho : Okb n bs) {l : List Nat} (h : Bad bs l) {k : Nat} (hk : k ≤ 1000) (hl : l.length ≤ k) : ∃ u : Nat, u < n ∧ tb bs k u u < 0 := by
  obtain ⟨u, s, hw, hs⟩ := h
  have h1 := way_tb ho k hk hl hw
  cases hw with
  | nil => omega
  | cons hi hu h =>
    have := ho.at hi
    refine ⟨u.toNat, by omega, ?_⟩
    rw [Int.toNat_of_nonneg (by omega)]; omega
theorem tb_bad {k : Nat} {u : Int} (h : tb bs k u u < 0) : ∃ l, l.length ≤ k ∧ Bad bs l := by
  obtain ⟨l, hl, hw⟩ := tb_way (bs := bs) k (u := u) (v := u) (by unfold farI; omega)
  exact ⟨l, hl, u, _, hw, h⟩
/-- Whether there is a contradiction. -/
def badB (n : Nat) (bs : List Bn) : Bool := (List.range n).any fun u => decide (tb bs n (u : Int) (u : Int) < 0)
theorem badB_iff {n : Nat} (hn : n ≤ 1000) (ho : Okb n bs) : badB n bs = true ↔ ∃ l, Bad bs l := by
  unfold badB
  rw [List.any_eq_true]
  constructor
  · rintro ⟨u, _, hu⟩
    obtain ⟨l, _, hl⟩ := tb_bad (of_decide_eq_true hu)
    exact ⟨l, hl⟩
  · rintro ⟨l, hl⟩
    obtain ⟨m, h1, h2, _, _⟩ := hl.small ho
    obtain ⟨u, hu, ht⟩ := h1.tb ho hn h2
    exact ⟨u, List.mem_range.2 hu, decide_eq_true ht⟩
theorem badB_false {n : Nat} (hn : n ≤ 1000) (ho : Okb n bs) : badB n bs = false ↔ Fine bs := by
  constructor
  · intro h l hl
    have := (badB_iff hn ho).2 ⟨l, hl⟩
    rw [h] at this; cases this
  · intro h
    cases hb : badB n bs with
    | false => rfl
    | true => obtain ⟨l, hl⟩ := (badB_iff hn ho).1 hb; exact absurd hl (h l)
theorem Fine.of_pot {x : Int → Int} (hx : ∀ c ∈ bs, x c.2.1 - x c.1 ≤ c.2.2) : Fine bs := by
  rintro l ⟨u, s, hw, hs⟩
  have := hw.pot hx
  omega

section fine
variable {n : Nat} (ho : Okb n bs) (hn : n ≤ 999) (hf : Fine bs)
include ho hn hf
theorem fine_le : ∀ (k : Nat) {u v s : Int} {l : List Nat}, l.length ≤ k → Way bs u l v s → tb bs n u v ≤ s
  | 0, u, v, s, l, hl, h => way_tb ho n (by omega) (by omega) h
  | k + 1, u, v, s, l, hl, h => by
    by_cases hd : (frs bs l).Nodup
    · exact way_tb ho n (by omega) (h.simple_le ho hd) h
    · obtain ⟨a, b, c, x, s1, s2, s3, rfl, hb, hc, h1, h2, h3, rfl⟩ := h.loop hd
      have lb := len_pos hb
      have := fine_le k (l := a ++ c) (by simp at hl ⊢; omega) (h1.append h3)
      have hs : 0 ≤ s2 := by
        rcases Int.lt_or_le s2 0 with k | k
        · exact absurd ⟨x, s2, h2, k⟩ (hf b)
        · exact k
      omega
theorem fine_way {u v s : Int} {l : List Nat} (h : Way bs u l v s) : tb bs n u v ≤ s := fine_le ho hn hf _ (Nat.le_refl _) h
omit ho hn in
theorem fine_self (u : Int) : tb bs n u u = 0 := by
  have h1 := tb_le bs n u u
  simp only [z0, if_pos] at h1
  rcases Int.lt_or_le (tb bs n u u) 0 with k | k
  · obtain ⟨l, _, hl⟩ := tb_bad k; exact absurd hl (hf l)
  · omega
/-- The triangle: a bound behind a distance. -/
theorem fine_step {u : Int} {c : Bn} (hc : c ∈ bs) (h : tb bs n u c.1 ≠ farI) : tb bs n u c.2.1 ≤ tb bs n u c.1 + c.2.2 := by
  obtain ⟨l, hl, hw⟩ := tb_way n h
  obtain ⟨i, hi⟩ := List.getElem?_of_mem hc
  exact fine_way ho hn hf (hw.append (.one hi))
theorem fine_tri {u v x : Int} (h1 : tb bs n u v ≠ farI) (h2 : tb bs n v x ≠ farI) : tb bs n u x ≤ tb bs n u v + tb bs n v x := by
  obtain ⟨l, _, hw⟩ := tb_way n h1
  obtain ⟨m, _, hv⟩ := tb_way n h2
  exact fine_way ho hn hf (hw.append hv)
end fine
theorem pot_tb {x : Int → Int} (hx : ∀ c ∈ bs, x c.2.1 - x c.1 ≤ c.2.2) {k : Nat} {u v : Int} (h : tb bs k u v ≠ farI) : x v - x u ≤ tb bs k u v := by
  obtain ⟨l, _, hw⟩ := tb_way k h
  exact hw.pot hx
end simple
end Go.Proofs.Ytkeimfkaoianmaa
