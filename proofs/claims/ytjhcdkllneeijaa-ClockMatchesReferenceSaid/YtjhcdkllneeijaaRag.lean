/- The reference's Agree. -/
import Derived.Test.YtjhcdkllneeijaaIn
import Derived.Test.YtjhcdkllneeijaaAgr
namespace Go.Proofs.Ytjhcdkllneeijaa
open Go.RowKit

theorem latest (l : List (Int × Int)) (s : Int) (h : 0 < inN l s) : ∃ p ∈ l, p.1 ≤ s ∧ s < p.2 ∧ ∀ q ∈ l, q.1 ≤ s → s < q.2 → q.1 ≤ p.1 := by
  induction l with
  | nil => simp [inN] at h
  | cons x l ih =>
    by_cases hl : 0 < inN l s
    · obtain ⟨p, hp, h1, h2, h3⟩ := ih hl
      by_cases hx : x.1 ≤ s ∧ s < x.2 ∧ p.1 < x.1
      · refine ⟨x, by simp, hx.1, hx.2.1, fun q hq q1 q2 => ?_⟩
        rcases List.mem_cons.1 hq with rfl | hq
        · exact Int.le_refl _
        · have := h3 q hq q1 q2; omega
      · refine ⟨p, by simp [hp], h1, h2, fun q hq q1 q2 => ?_⟩
        rcases List.mem_cons.1 hq with rfl | hq
        · omega
        · exact h3 q hq q1 q2
    · have hx : x.1 ≤ s ∧ s < x.2 := by
        unfold inN at h hl
        rw [List.countP_cons] at h
        by_cases hc : (decide (x.1 ≤ s) && decide (s < x.2)) = true
        · simpa using hc
        · rw [if_neg hc] at h; omega
      refine ⟨x, by simp, hx.1, hx.2, fun q hq q1 q2 => ?_⟩
      rcases List.mem_cons.1 hq with rfl | hq
      · exact Int.le_refl _
      · exact absurd (List.countP_pos_iff.2 ⟨q, hq, by simp [q1, q2]⟩) hl
theorem start_of (l : List (Int × Int)) (s : Int) (h : 0 < inN l s) : ∃ p ∈ l, p.1 ≤ s ∧ inN l s ≤ inN l p.1 := by
  obtain ⟨p, hp, h1, h2, h3⟩ := latest l s h
  refine ⟨p, hp, h1, List.countP_mono_left (fun q hq hc => ?_)⟩
  simp only [Bool.and_eq_true, decide_eq_true_eq] at hc ⊢
  have := h3 q hq hc.1 hc.2
  omega
theorem same_in (l : List (Int × Int)) {a s : Int} (h : a ≤ s) (hn : ∀ p ∈ l, (a < p.1 → s < p.1) ∧ (a < p.2 → s < p.2)) : inN l s = inN l a := by
  unfold inN
  refine List.countP_congr (fun p hp => ?_)
  obtain ⟨h1, h2⟩ := hn p hp
  simp only [Bool.and_eq_true, decide_eq_true_eq]
  constructor
  · rintro ⟨k1, k2⟩
    exact ⟨by
      apply Decidable.byContradiction
      intro hc
      have := h1 (by omega)
      omega, by omega⟩
  · rintro ⟨k1, k2⟩
    exact ⟨by omega, h2 k2⟩
/-- The first phase: the greatest number at the starts looked at, and the first such start. -/
structure Ph (l : List (Int × Int)) (i : Nat) (most : Nat) (f : Int) : Prop where
  top : ∀ p ∈ l.take i, inN l p.1 ≤ most
  at' : 0 < most → inN l f = most
  first : 0 < most → ∀ p ∈ l.take i, inN l p.1 = most → f ≤ p.1
theorem Ph.zero (l : List (Int × Int)) : Ph l 0 0 0 := ⟨by simp, fun h => by omega, fun h => by omega⟩
theorem mem_take_succ {α : Type} {l : List α} {i : Nat} {x p : α} (hx : l[i]? = some x) (hp : p ∈ l.take (i + 1)) : p ∈ l.take i ∨ p = x := by
  rw [List.take_add_one, hx] at hp
  rcases List.mem_append.1 hp with h | h
  · exact .inl h
  · exact .inr (by simpa using h)
section
variable {l : List (Int × Int)} {i most : Nat} {f x y : Int}
theorem Ph.up (h : Ph l i most f) (hx : l[i]? = some (x, y)) (hm : most < inN l x) : Ph l (i + 1) (inN l x) x :=
  ⟨fun p hp => by
    rcases mem_take_succ hx hp with hp | rfl
    · have := h.top p hp; omega
    · exact Nat.le_refl _, fun _ => rfl, fun _ p hp he => by
    rcases mem_take_succ hx hp with hp | rfl
    · have := h.top p hp; omega
    · exact Int.le_refl _⟩
theorem Ph.left (h : Ph l i most f) (hx : l[i]? = some (x, y)) (hm : inN l x = most) (hf : x < f) : Ph l (i + 1) most x :=
  ⟨fun p hp => by
    rcases mem_take_succ hx hp with hp | rfl
    · exact h.top p hp
    · exact Nat.le_of_eq hm, fun _ => hm, fun h0 p hp he => by
    rcases mem_take_succ hx hp with hp | rfl
    · have := h.first h0 p hp he; omega
    · exact Int.le_refl _⟩
theorem Ph.stay (h : Ph l i most f) (hx : l[i]? = some (x, y)) (hm : inN l x ≤ most) (hf : inN l x = most → f ≤ x) : Ph l (i + 1) most f :=
  ⟨fun p hp => by
    rcases mem_take_succ hx hp with hp | rfl
    · exact h.top p hp
    · exact hm, h.at', fun h0 p hp he => by
    rcases mem_take_succ hx hp with hp | rfl
    · exact h.first h0 p hp he
    · exact hf he⟩
theorem Ph.all (h : Ph l l.length most f) (s : Int) : inN l s ≤ most := by
  by_cases h0 : 0 < inN l s
  · obtain ⟨p, hp, _, h2⟩ := start_of l s h0
    have := h.top p (by rw [List.take_length]; exact hp)
    omega
  · omega
theorem Ph.ahead (h : Ph l l.length most f) (h0 : 0 < most) {s : Int} (hs : s < f) : inN l s < most := by
  have h1 := h.all s
  rcases Nat.lt_or_ge (inN l s) most with h2 | h2
  · exact h2
  · obtain ⟨p, hp, h3, h4⟩ := start_of l s (by omega)
    have h5 := h.top p (by rw [List.take_length]; exact hp)
    have := h.first h0 p (by rw [List.take_length]; exact hp) (by omega)
    omega
end
/-- The next end behind a second, among those looked at. -/
def Nx (a : Int) (E : List Int) (n : Int) : Prop := (n = a ∧ ∀ e ∈ E, e ≤ a) ∨ (a < n ∧ n ∈ E ∧ ∀ e ∈ E, a < e → n ≤ e)
theorem Nx.take {a n e : Int} {E : List Int} (h : Nx a E n) (h1 : a < e) (h2 : n = a ∨ e < n) : Nx a (E ++ [e]) e := by
  refine .inr ⟨h1, by simp, fun z hz hz1 => ?_⟩
  rcases List.mem_append.1 hz with hz | hz
  · rcases h with ⟨h, k⟩ | ⟨h, k, m⟩
    · have := k z hz; omega
    · have := m z hz hz1; omega
  · rw [List.mem_singleton.1 hz]; exact Int.le_refl _
theorem Nx.skip {a n e : Int} {E : List Int} (h : Nx a E n) (h1 : ¬ (a < e ∧ (n = a ∨ e < n))) : Nx a (E ++ [e]) n := by
  rcases h with ⟨h, k⟩ | ⟨h, k, m⟩
  · refine .inl ⟨h, fun z hz => ?_⟩
    rcases List.mem_append.1 hz with hz | hz
    · exact k z hz
    · rw [List.mem_singleton.1 hz]; omega
  · refine .inr ⟨h, List.mem_append_left _ k, fun z hz hz1 => ?_⟩
    rcases List.mem_append.1 hz with hz | hz
    · exact m z hz hz1
    · rw [List.mem_singleton.1 hz] at hz1 ⊢; omega
def ends : List (Int × Int) → List Int
  | [] => []
  | p :: l => p.1 :: p.2 :: ends l
theorem ends_app (a b : List (Int × Int)) : ends (a ++ b) = ends a ++ ends b := by
  induction a with
  | nil => rfl
  | cons x a ih => simp [ends, ih]
theorem ends_mem {l : List (Int × Int)} {p : Int × Int} (h : p ∈ l) : p.1 ∈ ends l ∧ p.2 ∈ ends l := by
  induction l with
  | nil => cases h
  | cons x l ih =>
    rcases List.mem_cons.1 h with rfl | h
    · simp [ends]
    · have := ih h; simp [ends, this]
theorem ends_take {l : List (Int × Int)} {i : Nat} {x y : Int} (h : l[i]? = some (x, y)) : ends (l.take (i + 1)) = ends (l.take i) ++ [x] ++ [y] := by
  rw [List.take_add_one, h, ends_app]
  simp [ends]
/-- How many ends lie behind a second. -/
def aft (l : List (Int × Int)) (a : Int) : Nat := (ends l).countP (fun e => decide (a < e))
theorem aft_less {l : List (Int × Int)} {a n : Int} (h : a < n) (hm : n ∈ ends l) : aft l n < aft l a := by
  unfold aft
  have key : ∀ E : List Int, n ∈ E → E.countP (fun e => decide (n < e)) < E.countP (fun e => decide (a < e)) := by
    intro E
    induction E with
    | nil => intro h; cases h
    | cons e E ih =>
      intro hm
      rw [List.countP_cons, List.countP_cons]
      have hle : E.countP (fun e => decide (n < e)) ≤ E.countP (fun e => decide (a < e)) := List.countP_mono_left (fun z _ hz => by simp only [decide_eq_true_eq] at hz ⊢; omega)
      rcases List.mem_cons.1 hm with rfl | hm
      · simp [h]; omega
      · have := ih hm
        by_cases h1 : n < e
        · simp [h1, show a < e by omega]; omega
        · simp [h1]; omega
  exact key _ hm
/-- The second phase: up to a second, all are in as many. -/
structure Sd (l : List (Int × Int)) (most : Nat) (f a : Int) : Prop where
  le : f ≤ a
  all : ∀ s, f ≤ s → s < a → inN l s = most
theorem Sd.step {l : List (Int × Int)} {most : Nat} {f a n : Int} (h : Sd l most f a) (hm : inN l a = most) (h0 : 0 < most) (hn : Nx a (ends l) n) : a < n ∧ n ∈ ends l ∧ Sd l most f n := by
  rcases hn with ⟨_, k⟩ | ⟨h1, h2, h3⟩
  · obtain ⟨p, hp, _, h4, _⟩ := latest l a (by omega)
    have := k _ (ends_mem hp).2
    omega
  · refine ⟨h1, h2, ⟨by have := h.le; omega, fun s s1 s2 => ?_⟩⟩
    by_cases hs : s < a
    · exact h.all s s1 hs
    · rw [same_in l (show a ≤ s by omega) (fun p hp => ⟨fun hh => by have := h3 _ (ends_mem hp).1 hh; omega, fun hh => by have := h3 _ (ends_mem hp).2 hh; omega⟩)]
      exact hm
theorem Sd.done {l : List (Int × Int)} {most : Nat} {f a : Int} (hp : Ph l l.length most f) (h0 : 0 < most) (h : Sd l most f a) (hm : inN l a ≠ most) : Agr l f a most := by
  have h1 := hp.all a
  have hf := hp.at' h0
  have hle := h.le
  have hne : f ≠ a := fun e => hm (by rw [← e]; exact hf)
  exact .inr ⟨by omega, by omega, fun s => by have := hp.all s; omega, fun s hs => by have := hp.ahead h0 hs; omega, fun s s1 s2 => by have := h.all s s1 s2; omega, by omega⟩
end Go.Proofs.Ytjhcdkllneeijaa
