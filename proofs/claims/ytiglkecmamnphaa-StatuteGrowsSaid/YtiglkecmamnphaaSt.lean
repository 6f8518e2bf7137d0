/- Rules with times: what applies, what is so, what proves it: the plain facts. -/
namespace Go.Proofs.Ytiglkecmamnphaa

structure Cls where
  pub : Int
  sf : Int
  st : Int
  needs : List Int
  bars : List Int
  gives : Int
structure Rpl where
  clause : Int
  pub : Int
  frm : Int
structure Fct where
  thing : Int
  says : Int
  sf : Int
  st : Int
  kf : Int
  kt : Int
structure Bk where
  cls : List Cls
  rpl : List Rpl
  fct : List Fct
structure Qn where
  thing : Int
  says : Int
  time : Int
  known : Int
/-- A finding: what, whether, by which fact, by which clause. -/
abbrev Fd := Int × Bool × Int × Int

def timeB (t : Int) : Bool := decide (0 ≤ t) && decide (t ≤ 10000000)
def spellB (f t : Int) : Bool := decide (0 ≤ f) && decide (f < t) && decide (t ≤ 10000001)
def sayB (n : Int) : Bool := decide (0 ≤ n) && decide (n < 20)
def thingB (n : Int) : Bool := decide (0 ≤ n) && decide (n ≤ 99999999)
def hasB (f t x : Int) : Bool := decide (f ≤ x) && decide (x < t)
def termsL (g : Int) : Int → List Int → Bool
  | _, [] => true
  | last, n :: l => decide (last < n) && decide (n < g) && termsL g n l
def termsB (l : List Int) (g : Int) : Bool := decide (l.length ≤ 4) && termsL g (-1) l
def clsB (c : Cls) : Bool := timeB c.pub && spellB c.sf c.st && sayB c.gives && termsB c.needs c.gives && termsB c.bars c.gives
def rplB (n : Int) (r : Rpl) : Bool := decide (0 ≤ r.clause) && decide (r.clause < n) && timeB r.pub && timeB r.frm
def fctB (f : Fct) : Bool := thingB f.thing && sayB f.says && spellB f.sf f.st && spellB f.kf f.kt
def validB (b : Bk) : Bool := decide (b.cls.length ≤ 20) && decide (b.rpl.length ≤ 10) && decide (b.fct.length ≤ 20) && b.cls.all clsB && b.rpl.all (rplB b.cls.length) && b.fct.all fctB
def asksB (q : Qn) : Bool := thingB q.thing && sayB q.says && timeB q.time && timeB q.known

def rplA (q : Qn) (i : Int) (r : Rpl) : Bool := decide (r.clause = i) && decide (r.pub ≤ q.known) && decide (r.frm ≤ q.time)
def repB (b : Bk) (q : Qn) (i : Int) : Bool := b.rpl.any (rplA q i)
def fctA (q : Qn) (f : Fct) : Bool := decide (f.thing = q.thing) && hasB f.sf f.st q.time && hasB f.kf f.kt q.known
def clsA (b : Bk) (q : Qn) (i : Int) (c : Cls) : Bool := decide (c.pub ≤ q.known) && hasB c.sf c.st q.time && !repB b q i
def fctOf (b : Bk) (i : Int) : Fct := (b.fct[i.toNat]?).getD ⟨0, -1, 0, 0, 0, 0⟩
def clsOf (b : Bk) (i : Int) : Cls := (b.cls[i.toNat]?).getD ⟨0, 0, 0, [], [], -1⟩
/-- The indices below k of those that apply. -/
def aFk (b : Bk) (q : Qn) (k : Nat) : List Int := ((List.range k).map Int.ofNat).filter fun i => fctA q (fctOf b i)
def aCk (b : Bk) (q : Qn) (k : Nat) : List Int := ((List.range k).map Int.ofNat).filter fun i => clsA b q i (clsOf b i)
def aF (b : Bk) (q : Qn) : List Int := aFk b q b.fct.length
def aC (b : Bk) (q : Qn) : List Int := aCk b q b.cls.length
def sF (b : Bk) (q : Qn) (n : Int) : List Int := (aF b q).filter fun i => decide ((fctOf b i).says = n)
def sC (b : Bk) (q : Qn) (n : Int) : List Int := (aC b q).filter fun i => decide ((clsOf b i).gives = n)
def okB (is : Int → Bool → Bool) (c : Cls) : Bool := c.needs.all (fun n => is n true) && c.bars.all (fun n => is n false)
def exB (is : Int → Bool → Bool) (c : Cls) : Bool := c.needs.any (fun n => is n false) || c.bars.any (fun n => is n true)
def isL (l : List Fd) (n : Int) (h : Bool) : Bool := l.any fun g => decide (g.1 = n) && g.2.1 == h
def rightB (b : Bk) (q : Qn) (is : Int → Bool → Bool) (f : Fd) : Bool :=
  if f = (f.1, false, -1, -1) then (sF b q f.1).isEmpty && (sC b q f.1).all fun i => exB is (clsOf b i)
  else if f = (f.1, true, f.2.2.1, -1) then (sF b q f.1).contains f.2.2.1
  else if f = (f.1, true, -1, f.2.2.2) then (sC b q f.1).contains f.2.2.2 && okB is (clsOf b f.2.2.2)
  else false
def prL (b : Bk) (q : Qn) : List Fd → Int → List Fd → Bool
  | _, _, [] => true
  | pre, last, f :: l => decide (last < f.1) && rightB b q (isL pre) f && prL b q (pre ++ [f]) f.1 l
def lastS (d : Int) : List Fd → Int
  | [] => d
  | f :: l => lastS f.1 l
def provesB (b : Bk) (q : Qn) (l : List Fd) (n : Int) : Bool := prL b q [] (-1) l && decide (lastS (-1) l = n)
def stepB (b : Bk) (q : Qn) (s : Int → Bool) (n : Int) : Bool := !(sF b q n).isEmpty || (sC b q n).any fun i => okB (fun m h => s m == h) (clsOf b i)
def soN (b : Bk) (q : Qn) : Nat → Int → Bool
  | 0, _ => false
  | k + 1, n => if n = (k : Int) then stepB b q (soN b q k) n else soN b q k n
def soB (b : Bk) (q : Qn) (n : Int) : Bool := soN b q 20 n

theorem termsL_mem {g : Int} : ∀ {l : List Int} {last : Int}, termsL g last l = true → ∀ n ∈ l, last < n ∧ n < g
  | [], _, _, _, h => by cases h
  | x :: l, last, h, n, hn => by
    simp only [termsL, Bool.and_eq_true, decide_eq_true_eq] at h
    rcases List.mem_cons.1 hn with rfl | hn
    · exact h.1
    · have := termsL_mem h.2 n hn
      omega
/-- What each clause asks lies below what it gives. -/
def LowB (b : Bk) : Prop := ∀ c ∈ b.cls, (0 ≤ c.gives ∧ c.gives < 20) ∧ (∀ n ∈ c.needs, 0 ≤ n ∧ n < c.gives) ∧ ∀ n ∈ c.bars, 0 ≤ n ∧ n < c.gives
theorem low_of {b : Bk} (h : validB b = true) : LowB b := by
  intro c hc
  simp only [validB, Bool.and_eq_true, List.all_eq_true] at h
  have h := h.1.1.2 c hc
  simp only [clsB, termsB, sayB, Bool.and_eq_true, decide_eq_true_eq] at h
  refine ⟨h.1.1.2, fun n hn => ?_, fun n hn => ?_⟩
  · have := termsL_mem h.1.2.2 n hn; omega
  · have := termsL_mem h.2.2 n hn; omega
theorem mem_aF {b : Bk} {q : Qn} {i : Int} : i ∈ aF b q ↔ (0 ≤ i ∧ i.toNat < b.fct.length) ∧ fctA q (fctOf b i) = true := by
  unfold aF aFk
  rw [List.mem_filter, List.mem_map]
  constructor
  · rintro ⟨⟨k, hk, rfl⟩, h⟩
    exact ⟨⟨Int.natCast_nonneg k, by simpa using hk⟩, h⟩
  · rintro ⟨⟨h0, h1⟩, h⟩
    exact ⟨⟨i.toNat, by simpa using h1, Int.toNat_of_nonneg h0⟩, h⟩
theorem mem_aC {b : Bk} {q : Qn} {i : Int} : i ∈ aC b q ↔ (0 ≤ i ∧ i.toNat < b.cls.length) ∧ clsA b q i (clsOf b i) = true := by
  unfold aC aCk
  rw [List.mem_filter, List.mem_map]
  constructor
  · rintro ⟨⟨k, hk, rfl⟩, h⟩
    exact ⟨⟨Int.natCast_nonneg k, by simpa using hk⟩, h⟩
  · rintro ⟨⟨h0, h1⟩, h⟩
    exact ⟨⟨i.toNat, by simpa using h1, Int.toNat_of_nonneg h0⟩, h⟩
theorem mem_sF {b : Bk} {q : Qn} {n i : Int} : i ∈ sF b q n ↔ i ∈ aF b q ∧ (fctOf b i).says = n := by simp [sF]
theorem mem_sC {b : Bk} {q : Qn} {n i : Int} : i ∈ sC b q n ↔ i ∈ aC b q ∧ (clsOf b i).gives = n := by simp [sC]
theorem clsOf_mem {b : Bk} {q : Qn} {i : Int} (h : i ∈ aC b q) : clsOf b i ∈ b.cls := by
  obtain ⟨⟨h0, h1⟩, _⟩ := mem_aC.1 h
  unfold clsOf
  rw [List.getElem?_eq_getElem h1]
  exact List.getElem_mem h1
theorem sC_low {b : Bk} {q : Qn} (hb : LowB b) {n i : Int} (h : i ∈ sC b q n) : (0 ≤ n ∧ n < 20) ∧ (∀ m ∈ (clsOf b i).needs, 0 ≤ m ∧ m < n) ∧ ∀ m ∈ (clsOf b i).bars, 0 ≤ m ∧ m < n := by
  obtain ⟨h1, h2⟩ := mem_sC.1 h
  have := hb _ (clsOf_mem h1)
  rw [h2] at this
  exact this
theorem all_congr {α : Type} {p r : α → Bool} : ∀ {l : List α}, (∀ x ∈ l, p x = r x) → l.all p = l.all r
  | [], _ => rfl
  | x :: l, h => by rw [List.all_cons, List.all_cons, h x (List.mem_cons_self ..), all_congr fun y hy => h y (List.mem_cons_of_mem _ hy)]
theorem any_congr {α : Type} {p r : α → Bool} : ∀ {l : List α}, (∀ x ∈ l, p x = r x) → l.any p = l.any r
  | [], _ => rfl
  | x :: l, h => by rw [List.any_cons, List.any_cons, h x (List.mem_cons_self ..), any_congr fun y hy => h y (List.mem_cons_of_mem _ hy)]
theorem okB_congr {is is' : Int → Bool → Bool} {c : Cls} (h : ∀ m h, (m ∈ c.needs ∨ m ∈ c.bars) → is m h = is' m h) : okB is c = okB is' c := by
  unfold okB
  rw [all_congr fun m hm => h m true (.inl hm), all_congr fun m hm => h m false (.inr hm)]
theorem exB_congr {is is' : Int → Bool → Bool} {c : Cls} (h : ∀ m h, (m ∈ c.needs ∨ m ∈ c.bars) → is m h = is' m h) : exB is c = exB is' c := by
  unfold exB
  rw [any_congr fun m hm => h m false (.inl hm), any_congr fun m hm => h m true (.inr hm)]
theorem okB_mono {is is' : Int → Bool → Bool} {c : Cls} (h : ∀ m h, is m h = true → is' m h = true) (k : okB is c = true) : okB is' c = true := by
  simp only [okB, Bool.and_eq_true, List.all_eq_true] at k ⊢
  exact ⟨fun m hm => h _ _ (k.1 m hm), fun m hm => h _ _ (k.2 m hm)⟩
theorem exB_mono {is is' : Int → Bool → Bool} {c : Cls} (h : ∀ m h, is m h = true → is' m h = true) (k : exB is c = true) : exB is' c = true := by
  simp only [exB, Bool.or_eq_true, List.any_eq_true] at k ⊢
  rcases k with ⟨m, hm, k⟩ | ⟨m, hm, k⟩
  · exact .inl ⟨m, hm, h _ _ k⟩
  · exact .inr ⟨m, hm, h _ _ k⟩
theorem rightB_congr {b : Bk} {q : Qn} (hb : LowB b) {is is' : Int → Bool → Bool} {f : Fd} (h : ∀ m h, m < f.1 → is m h = is' m h) : rightB b q is f = rightB b q is' f := by
  have hA : ((sC b q f.1).all fun i => exB is (clsOf b i)) = (sC b q f.1).all fun i => exB is' (clsOf b i) := all_congr fun i hi => exB_congr fun m k hm => h m k (by
    obtain ⟨_, h1, h2⟩ := sC_low hb hi
    rcases hm with hm | hm
    · exact (h1 m hm).2
    · exact (h2 m hm).2)
  have hB : ((sC b q f.1).contains f.2.2.2 && okB is (clsOf b f.2.2.2)) = ((sC b q f.1).contains f.2.2.2 && okB is' (clsOf b f.2.2.2)) := by
    cases hc : (sC b q f.1).contains f.2.2.2
    · rfl
    · obtain ⟨_, h1, h2⟩ := sC_low hb (List.contains_iff_mem.1 hc)
      rw [okB_congr fun m k hm => h m k (by
        rcases hm with hm | hm
        · exact (h1 m hm).2
        · exact (h2 m hm).2)]
  unfold rightB
  rw [hA, hB]
theorem rightB_mono {b : Bk} {q : Qn} {is is' : Int → Bool → Bool} {f : Fd} (h : ∀ m h, is m h = true → is' m h = true) (k : rightB b q is f = true) : rightB b q is' f = true := by
  unfold rightB at k ⊢
  split at k
  · rename_i e
    rw [if_pos e]
    simp only [Bool.and_eq_true, List.all_eq_true] at k ⊢
    exact ⟨k.1, fun i hi => exB_mono h (k.2 i hi)⟩
  · rename_i e
    rw [if_neg e]
    split at k
    · rename_i e2
      rw [if_pos e2]; exact k
    · rename_i e2
      rw [if_neg e2]
      split at k
      · rename_i e3
        rw [if_pos e3]
        simp only [Bool.and_eq_true] at k ⊢
        exact ⟨k.1, okB_mono h k.2⟩
      · cases k
theorem stepB_congr {b : Bk} {q : Qn} (hb : LowB b) {s s' : Int → Bool} {n : Int} (h : ∀ m, 0 ≤ m → m < n → s m = s' m) : stepB b q s n = stepB b q s' n := by
  unfold stepB
  rw [any_congr fun i hi => okB_congr (c := clsOf b i) (is' := fun m h => s' m == h) fun m k hm => by
    obtain ⟨_, h1, h2⟩ := sC_low hb hi
    have : 0 ≤ m ∧ m < n := by
      rcases hm with hm | hm
      · exact h1 m hm
      · exact h2 m hm
    rw [h m this.1 this.2]]
theorem soN_up {b : Bk} {q : Qn} {n : Int} (h0 : 0 ≤ n) : ∀ (k j : Nat), n < k → soN b q (k + j) n = soN b q k n
  | _, 0, _ => rfl
  | k, j + 1, h => by
    show (if n = ((k + j : Nat) : Int) then _ else _) = _
    rw [if_neg (by omega)]
    exact soN_up h0 k j h
theorem soB_eq {b : Bk} {q : Qn} (hb : LowB b) {n : Int} (h0 : 0 ≤ n) (h1 : n < 20) : soB b q n = stepB b q (soB b q) n := by
  obtain ⟨k, rfl⟩ := Int.eq_ofNat_of_zero_le h0
  have e1 : soB b q (k : Int) = soN b q (k + 1) (k : Int) := by
    have := soN_up (b := b) (q := q) h0 (k + 1) (19 - k) (by omega)
    rw [show k + 1 + (19 - k) = 20 by omega] at this
    exact this
  rw [e1, soN, if_pos rfl]
  exact stepB_congr hb fun m m0 mk => by
    have := soN_up (b := b) (q := q) m0 k (20 - k) (by omega)
    rw [show k + (20 - k) = 20 by omega] at this
    exact this.symm
theorem isL_iff {l : List Fd} {n : Int} {h : Bool} : isL l n h = true ↔ ∃ g ∈ l, g.1 = n ∧ g.2.1 = h := by simp [isL]
theorem isL_append (l m : List Fd) (n : Int) (h : Bool) : isL (l ++ m) n h = (isL l n h || isL m n h) := by simp [isL]

theorem isL_mono {l m : List Fd} (h : ∀ g ∈ l, g ∈ m) : ∀ n k, isL l n k = true → isL m n k = true := fun n k e => by
  obtain ⟨g, hg, h1⟩ := isL_iff.1 e
  exact isL_iff.2 ⟨g, h g hg, h1⟩
theorem prL_append (b : Bk) (q : Qn) : ∀ (l m pre : List Fd) (last : Int), prL b q pre last (l ++ m) = (prL b q pre last l && prL b q (pre ++ l) (lastS last l) m)
  | [], m, pre, last => by simp [prL, lastS]
  | f :: l, m, pre, last => by
    rw [List.cons_append, prL, prL, prL_append b q l m, lastS, List.append_assoc, List.singleton_append, Bool.and_assoc, Bool.and_assoc, Bool.and_assoc]
theorem lastS_append (l m : List Fd) (d : Int) : lastS d (l ++ m) = lastS (lastS d l) m := by
  induction l generalizing d with
  | nil => rfl
  | cons f l ih => exact ih f.1
theorem lastS_snoc (l : List Fd) (f : Fd) (d : Int) : lastS d (l ++ [f]) = f.1 := by rw [lastS_append]; rfl
/-- Ascending, above d. -/
def Asc : Int → List Fd → Prop
  | _, [] => True
  | d, f :: l => d < f.1 ∧ Asc f.1 l
theorem asc_gt : ∀ {l : List Fd} {d : Int}, Asc d l → ∀ f ∈ l, d < f.1
  | [], _, _, _, h => by cases h
  | x :: l, d, h, f, hf => by
    rcases List.mem_cons.1 hf with rfl | hf
    · exact h.1
    · exact Int.lt_trans h.1 (asc_gt h.2 f hf)
theorem asc_weak : ∀ {l : List Fd} {d d' : Int}, d' ≤ d → Asc d l → Asc d' l
  | [], _, _, _, _ => trivial
  | _ :: _, _, _, h, k => ⟨Int.lt_of_le_of_lt h k.1, k.2⟩
theorem asc_append {l m : List Fd} {d : Int} : Asc d (l ++ m) ↔ Asc d l ∧ Asc (lastS d l) m := by
  induction l generalizing d with
  | nil => simp [Asc, lastS]
  | cons f l ih => simp only [List.cons_append, Asc, lastS, ih, and_assoc]
theorem asc_lt_last : ∀ {l : List Fd} {d : Int}, Asc d l → ∀ f ∈ l, f.1 ≤ lastS d l
  | [], _, _, _, h => by cases h
  | x :: l, d, h, f, hf => by
    have hle : ∀ (m : List Fd) (e : Int), Asc e m → e ≤ lastS e m := by
      intro m
      induction m with
      | nil => exact fun e _ => Int.le_refl e
      | cons y m ih => exact fun e k => Int.le_trans (Int.le_of_lt k.1) (ih y.1 k.2)
    rcases List.mem_cons.1 hf with rfl | hf
    · exact hle l _ h.2
    · exact asc_lt_last h.2 f hf
/-- A list is right: each of its findings, by the others. -/
theorem prL_iff {b : Bk} {q : Qn} (hb : LowB b) : ∀ {l pre : List Fd} {last : Int}, (∀ g ∈ pre, g.1 ≤ last) → (prL b q pre last l = true ↔ Asc last l ∧ ∀ f ∈ l, rightB b q (isL (pre ++ l)) f = true)
  | [], _, _, _ => by simp [prL, Asc]
  | f :: l, pre, last, hp => by
    rw [prL]
    simp only [Bool.and_eq_true, decide_eq_true_eq, Asc]
    have key : ∀ (h : last < f.1) (_ : Asc f.1 l), rightB b q (isL pre) f = rightB b q (isL (pre ++ f :: l)) f := fun h ha => rightB_congr hb fun m k hm => by
      rw [isL_append]
      cases hz : isL (f :: l) m k
      · rw [Bool.or_false]
      · obtain ⟨g, hg, e, _⟩ := isL_iff.1 hz
        rcases List.mem_cons.1 hg with rfl | hg
        · omega
        · have := asc_gt ha g hg
          omega
    constructor
    · rintro ⟨⟨h1, h2⟩, h3⟩
      have := (prL_iff hb (l := l) (pre := pre ++ [f]) (last := f.1) (by
        intro g hg
        rcases List.mem_append.1 hg with hg | hg
        · have := hp g hg; omega
        · rcases List.mem_singleton.1 hg with rfl; exact Int.le_refl _)).1 h3
      rw [List.append_assoc, List.singleton_append] at this
      refine ⟨⟨h1, this.1⟩, fun g hg => ?_⟩
      rcases List.mem_cons.1 hg with rfl | hg
      · rw [← key h1 this.1]; exact h2
      · exact this.2 g hg
    · rintro ⟨⟨h1, h2⟩, h3⟩
      refine ⟨⟨h1, ?_⟩, ?_⟩
      · rw [key h1 h2]; exact h3 f (List.mem_cons_self ..)
      · refine (prL_iff hb (l := l) (pre := pre ++ [f]) (last := f.1) (by
          intro g hg
          rcases List.mem_append.1 hg with hg | hg
          · have := hp g hg; omega
          · rcases List.mem_singleton.1 hg with rfl; exact Int.le_refl _)).2 ⟨h2, ?_⟩
        rw [List.append_assoc, List.singleton_append]
        exact fun g hg => h3 g (List.mem_cons_of_mem _ hg)
theorem provesB_iff {b : Bk} {q : Qn} (hb : LowB b) {l : List Fd} {n : Int} : provesB b q l n = true ↔ (Asc (-1) l ∧ ∀ f ∈ l, rightB b q (isL l) f = true) ∧ lastS (-1) l = n := by
  unfold provesB
  rw [Bool.and_eq_true, decide_eq_true_eq, prL_iff hb (by intro g hg; cases hg), List.nil_append]
/-- What a right finding says is so. -/
theorem right_so {b : Bk} {q : Qn} (hb : LowB b) {is : Int → Bool → Bool} {f : Fd} (h0 : 0 ≤ f.1) (h1 : f.1 < 20) (hi : ∀ m h, m < f.1 → 0 ≤ m → is m h = true → soB b q m = h) (h : rightB b q is f = true) : f.2.1 = soB b q f.1 := by
  obtain ⟨n, hd, fa, cl⟩ := f
  rw [soB_eq hb h0 h1]
  unfold rightB at h
  unfold stepB
  dsimp only at *
  split at h
  · rename_i e
    obtain ⟨rfl, _, _⟩ : hd = false ∧ fa = -1 ∧ cl = -1 := by simpa using e
    simp only [Bool.and_eq_true, List.all_eq_true] at h
    rw [h.1, Bool.not_true, Bool.false_or]
    symm
    rw [List.any_eq_false]
    intro i hm
    obtain ⟨_, l1, l2⟩ := sC_low hb hm
    have h2 := h.2 i hm
    simp only [exB, Bool.or_eq_true, List.any_eq_true] at h2
    intro hok
    simp only [okB, Bool.and_eq_true, List.all_eq_true] at hok
    rcases h2 with ⟨m, hm, k⟩ | ⟨m, hm, k⟩
    · have e1 := hi m false (l1 m hm).2 (l1 m hm).1 k
      have e2 := hok.1 m hm
      rw [e1] at e2
      cases e2
    · have e1 := hi m true (l2 m hm).2 (l2 m hm).1 k
      have e2 := hok.2 m hm
      rw [e1] at e2
      cases e2
  · split at h
    · rename_i e
      obtain ⟨rfl, _⟩ : hd = true ∧ cl = -1 := by simpa using e
      have hm := List.contains_iff_mem.1 h
      cases hs : sF b q n with
      | nil => rw [hs] at hm; cases hm
      | cons x l => rfl
    · split at h
      · rename_i e
        obtain ⟨rfl, _⟩ : hd = true ∧ fa = -1 := by simpa using e
        rw [Bool.and_eq_true] at h
        have hm := List.contains_iff_mem.1 h.1
        obtain ⟨_, l1, l2⟩ := sC_low hb hm
        symm
        rw [Bool.or_eq_true]
        right
        rw [List.any_eq_true]
        refine ⟨cl, hm, ?_⟩
        have h2 := h.2
        simp only [okB, Bool.and_eq_true, List.all_eq_true] at h2 ⊢
        exact ⟨fun m hm => by rw [hi m true (l1 m hm).2 (l1 m hm).1 (h2.1 m hm)]; rfl, fun m hm => by rw [hi m false (l2 m hm).2 (l2 m hm).1 (h2.2 m hm)]; rfl⟩
      · cases h
theorem list_so {b : Bk} {q : Qn} (hb : LowB b) {l : List Fd} (ha : Asc (-1) l) (hr : ∀ f ∈ l, rightB b q (isL l) f = true) (hl : lastS (-1) l < 20) : ∀ (k : Nat) (f : Fd), f ∈ l → f.1 < (k : Int) → f.2.1 = soB b q f.1
  | 0, f, hf, hk => by have := asc_gt ha f hf; omega
  | k + 1, f, hf, hk => by
    have g0 := asc_gt ha f hf
    have g1 := asc_lt_last ha f hf
    refine right_so hb (by omega) (by omega) (fun m h hm h0 e => ?_) (hr f hf)
    obtain ⟨g, hg, rfl, rfl⟩ := isL_iff.1 e
    exact (list_so hb ha hr hl k g hg (by omega)).symm
/-- The last finding of a proof says what is so. -/
theorem proves_so {b : Bk} {q : Qn} (hb : LowB b) {l : List Fd} {n : Int} (hn : n < 20) (h : provesB b q l n = true) : ∀ f ∈ l, f.2.1 = soB b q f.1 := by
  obtain ⟨⟨h1, h2⟩, h3⟩ := (provesB_iff hb).1 h
  intro f hf
  have := asc_lt_last h1 f hf
  exact list_so hb h1 h2 (by omega) 20 f hf (by omega)
/-- A finding that is not needed now is not needed of a longer beginning. -/
theorem proves_less {b : Bk} {q : Qn} (hb : LowB b) {A A' B : List Fd} {n : Int} (hs : ∀ f ∈ A', f ∈ A) (hA : Asc (-1) (A ++ B)) (hR : ∀ f ∈ A, rightB b q (isL A) f = true) (hB : B ≠ []) (h : provesB b q (A' ++ B) n = true) : provesB b q (A ++ B) n = true := by
  obtain ⟨⟨h1, h2⟩, h3⟩ := (provesB_iff hb).1 h
  refine (provesB_iff hb).2 ⟨⟨hA, fun f hf => ?_⟩, ?_⟩
  · rcases List.mem_append.1 hf with hf | hf
    · exact rightB_mono (isL_mono fun g hg => List.mem_append_left _ hg) (hR f hf)
    · refine rightB_mono (isL_mono fun g hg => ?_) (h2 f (List.mem_append_right _ hf))
      rcases List.mem_append.1 hg with hg | hg
      · exact List.mem_append_left _ (hs g hg)
      · exact List.mem_append_right _ hg
  · rw [lastS_append] at h3 ⊢
    cases B with
    | nil => exact absurd rfl hB
    | cons x B => exact h3
end Go.Proofs.Ytiglkecmamnphaa
