/- add: any numbers; what a proof leans on. -/
import Derived.Test.YtiglkecmamnphaaAd0
namespace Go.Proofs.Ytiglkecmamnphaa
open Go.RowKit Go.Sort Go.Lib

theorem compact_sorted (d : Array Int) (hs : ∀ i j, i < j → j < d.size → d[i]! ≤ d[j]!) : ∀ m, m ≤ d.size → Up (compactUpTo d m) ∧ (∀ y ∈ compactUpTo d m, ∃ i, i < m ∧ y = d[i]!) ∧ (∀ i, i < m → d[i]! ∈ compactUpTo d m)
  | 0, _ => ⟨by unfold compactUpTo; exact List.Pairwise.nil, by simp [compactUpTo], fun i h => by omega⟩
  | m + 1, hm => by
    obtain ⟨h1, h2, h3⟩ := compact_sorted d hs m (by omega)
    rw [compactUpTo_succ]
    by_cases hk : keeps d m = true
    · rw [if_pos hk]
      refine ⟨?_, ?_, ?_⟩
      · unfold Up
        rw [List.pairwise_append]
        refine ⟨h1, List.pairwise_singleton .., fun a ha b hb => ?_⟩
        rw [List.mem_singleton] at hb
        subst hb
        obtain ⟨i, hi, rfl⟩ := h2 a ha
        simp only [keeps, decide_eq_true_eq] at hk
        rcases hk with hk | hk
        · omega
        · have e1 : d[i]! ≤ d[m - 1]! := by
            rcases Nat.lt_or_ge i (m - 1) with hlt | hge
            · exact hs i (m - 1) hlt (by omega)
            · rw [show i = m - 1 by omega]; exact Int.le_refl _
          have e2 := hs (m - 1) m (by omega) (by omega)
          omega
      · intro y hy
        rcases List.mem_append.1 hy with hy | hy
        · obtain ⟨i, hi, e⟩ := h2 y hy
          exact ⟨i, by omega, e⟩
        · exact ⟨m, by omega, List.mem_singleton.1 hy⟩
      · intro i hi
        rcases Nat.lt_or_ge i m with hlt | hge
        · exact List.mem_append_left _ (h3 i hlt)
        · rw [show i = m by omega]; exact List.mem_append_right _ (List.mem_singleton_self _)
    · rw [if_neg hk, List.append_nil]
      simp only [keeps, decide_eq_true_eq, not_or, Classical.not_not] at hk
      refine ⟨h1, fun y hy => ?_, fun i hi => ?_⟩
      · obtain ⟨i, hi, e⟩ := h2 y hy
        exact ⟨i, by omega, e⟩
      · rcases Nat.lt_or_ge i m with hlt | hge
        · exact h3 i hlt
        · rw [show i = m by omega, hk.2]; exact h3 (m - 1) (by omega)
theorem addS_ok (l xs : List Int) : Up (addS l xs) ∧ ∀ y, y ∈ addS l xs ↔ y ∈ l ∨ y ∈ xs := by
  obtain ⟨S, hS⟩ : ∃ S, S = (l ++ xs).mergeSort fun x y => decide (x ≤ y) := ⟨_, rfl⟩
  have hle : S.Pairwise (· ≤ ·) := by
    rw [hS]
    have := List.pairwise_mergeSort (le := fun x y : Int => decide (x ≤ y)) (fun a b c => by simp; omega) (fun a b => by simp; omega) (l ++ xs)
    exact this.imp fun {a b} h => by simpa using h
  have hmem : ∀ y, y ∈ S ↔ y ∈ l ∨ y ∈ xs := fun y => by rw [hS, (List.mergeSort_perm (l ++ xs) _).mem_iff, List.mem_append]
  have hd : addS l xs = compactUpTo S.toArray S.length := by rw [hS]; rfl
  obtain ⟨h1, h2, h3⟩ := compact_sorted S.toArray (fun i j hij hj => by
    have hj' : j < S.length := by simpa using hj
    have := List.pairwise_iff_getElem.1 hle i j (by omega) hj' hij
    have e1 : S.toArray[i]! = S[i]'(by omega) := by simp [show i < S.length by omega]
    have e2 : S.toArray[j]! = S[j] := by simp [hj']
    rw [e1, e2]
    exact this) S.length (by simp)
  rw [← hd] at h1 h2 h3
  refine ⟨h1, fun y => ?_⟩
  rw [← hmem]
  constructor
  · intro hy
    obtain ⟨i, hi, rfl⟩ := h2 y hy
    have e1 : S.toArray[i]! = S[i] := by simp [hi]
    rw [e1]
    exact List.getElem_mem hi
  · intro hy
    obtain ⟨i, hi, rfl⟩ := List.getElem_of_mem hy
    have := h3 i hi
    have e1 : S.toArray[i]! = S[i] := by simp [hi]
    rwa [e1] at this

theorem add_all (base : Nat) (v : Value) (l : List Int) (XA : Option Addr) (xc : Nat) (xs : List Int) (w : World) (hbase : base ≤ w.heap.size) (hown : w.ownsRow base 3 1 v l.length (iC l)) (hx : Nums w w.heap.size XA xs) (hu : Up l) (hlen : l.length + xs.length ≤ 1000) :
    Calls Try.prog 34 #[v, .slice XA xs.length xc] w fun e w' => ∃ v', e = .returned v' ∧ w'.ownsRow base 3 1 v' (addS l xs).length (iC (addS l xs)) ∧ w.grownBy w' v.ownBlock ∧ (∀ g, v'.ownBlock = some g → v.ownBlock = some g ∨ w.heap.size ≤ g) := by
  cases xs with
  | nil =>
    rw [addS_nil hu]
    exact add_zero base v l XA xc w hown hu (by simpa using hlen)
  | cons x xs =>
    refine (add_any base v l XA xc (x :: xs) w hbase hown hx (by simp) hlen).mono ?_
    rintro e w' ⟨g, cap, rfl, ho, hg, hgg⟩
    exact ⟨_, rfl, ho, hg, fun g' h => by cases h; exact hgg⟩

/-- Two lists of the call's own, apart from each other. -/
def Two (B : Nat) (u v : Value) (F C : List Int) (W : World) : Prop := W.ownsRow B 3 1 u F.length (iC F) ∧ W.ownsRow B 3 1 v C.length (iC C) ∧ ∀ g, u.ownBlock = some g → v.ownBlock ≠ some g
theorem Two.a {B : Nat} {u v : Value} {F C : List Int} {W : World} (h : Two B u v F C W) : W.ownsRow B 3 1 u F.length (iC F) := h.1
theorem Two.b {B : Nat} {u v : Value} {F C : List Int} {W : World} (h : Two B u v F C W) : W.ownsRow B 3 1 v C.length (iC C) := h.2.1
theorem Two.step {B : Nat} {u v : Value} {F C : List Int} {W X : World} (h : Two B u v F C W) (hb : Below W.heap.size W X) : Two B u v F C X := ⟨own_over h.1 hb, own_over h.2.1 hb, h.2.2⟩
theorem Two.fst {B : Nat} {u v u' : Value} {F C F' : List Int} {W X : World} (h : Two B u v F C W) (ho : X.ownsRow B 3 1 u' F'.length (iC F')) (hg : W.grownBy X u.ownBlock) (hn : ∀ g, u'.ownBlock = some g → u.ownBlock = some g ∨ W.heap.size ≤ g) : Two B u' v F' C X := by
  refine ⟨ho, h.2.1.kept hg ?_, fun g e e2 => ?_⟩
  · cases hv : v.ownBlock with
    | none => exact .inl rfl
    | some g => exact .inr fun e => h.2.2 g e.symm hv
  · rcases hn g e with h1 | h1
    · exact h.2.2 g h1 e2
    · have := (h.2.1.lt g e2).2
      omega
theorem Two.snd {B : Nat} {u v v' : Value} {F C C' : List Int} {W X : World} (h : Two B u v F C W) (ho : X.ownsRow B 3 1 v' C'.length (iC C')) (hg : W.grownBy X v.ownBlock) (hn : ∀ g, v'.ownBlock = some g → v.ownBlock = some g ∨ W.heap.size ≤ g) : Two B u v' F C' X := by
  refine ⟨h.1.kept hg ?_, ho, fun g e e2 => ?_⟩
  · cases hv : u.ownBlock with
    | none => exact .inl rfl
    | some g => exact .inr fun e => h.2.2 g hv e.symm
  · rcases hn g e2 with h1 | h1
    · exact h.2.2 g e h1
    · have := (h.1.lt g e).2
      omega

/-- What a finding leans on, put to what was leant on before. -/
def uStep (b : Bk) (q : Qn) (p : List Int × List Int) (f : Fd) : List Int × List Int :=
  if f.2.1 = false then (p.1, addS p.2 (sC b q f.1)) else if f.2.2.2 = -1 then (addS p.1 [f.2.2.1], p.2) else (p.1, addS p.2 [f.2.2.2])
def usesL (b : Bk) (q : Qn) (l : List Fd) : List Int × List Int := l.foldl (uStep b q) ([], [])
theorem uses_succ (b : Bk) (q : Qn) {l : List Fd} {k : Nat} {f : Fd} (h : l[k]? = some f) : usesL b q (l.take (k + 1)) = uStep b q (usesL b q (l.take k)) f := by
  unfold usesL
  rw [List.take_add_one, h, List.foldl_append]
  rfl
theorem uses_ok (b : Bk) (q : Qn) (h20 : b.cls.length ≤ 20) (l : List Fd) : ∀ k, Up (usesL b q (l.take k)).1 ∧ Up (usesL b q (l.take k)).2 ∧ (usesL b q (l.take k)).1.length ≤ k ∧ (usesL b q (l.take k)).2.length ≤ 20 * k
  | 0 => ⟨List.Pairwise.nil, List.Pairwise.nil, by simp [usesL], by simp [usesL]⟩
  | k + 1 => by
    obtain ⟨h1, h2, h3, h4⟩ := uses_ok b q h20 l k
    cases hk : l[k]? with
    | none =>
      rw [List.take_add_one, hk, Option.toList_none, List.append_nil]
      exact ⟨h1, h2, by omega, by omega⟩
    | some f =>
      rw [uses_succ b q hk]
      have hc := Nat.le_trans (len_sC b q f.1) h20
      have a1 := addS_len (usesL b q (l.take k)).2 (sC b q f.1)
      have a2 := addS_len (usesL b q (l.take k)).1 [f.2.2.1]
      have a3 := addS_len (usesL b q (l.take k)).2 [f.2.2.2]
      simp only [List.length_singleton] at a2 a3
      unfold uStep
      split
      · exact ⟨h1, (addS_ok _ _).1, by (dsimp only; omega), by (dsimp only; omega)⟩
      · split
        · exact ⟨(addS_ok _ _).1, h2, by (dsimp only; omega), by (dsimp only; omega)⟩
        · exact ⟨h1, (addS_ok _ _).1, by (dsimp only; omega), by (dsimp only; omega)⟩
end Go.Proofs.Ytiglkecmamnphaa
