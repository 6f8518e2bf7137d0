/- What BetweenImplies says, plainly. -/
import Derived.Test.YtkeimfkaoianmaaMm
import Derived.Test.YtkeimfkaoianmaaCk2
import Derived.Test.YtkeimfkaoianmaaCyc
namespace Go.Proofs.Ytkeimfkaoianmaa
open Go.RowKit

/-- A list of numbers that leads is a way. -/
theorem goL_way {bs : List Bn} : ∀ (l : List Int) (u s v s' : Int), goL bs u s l = some (v, s') → Way bs u (l.map Int.toNat) v (s' - s)
  | [], u, s, v, s', h => by
    cases h
    rw [Int.sub_self]
    exact .nil u
  | i :: l, u, s, v, s', h => by
    unfold goL at h
    split at h
    · split at h
      · rename_i c hc
        split at h
        · rename_i hu
          have := goL_way l _ _ _ _ h
          have w := Way.cons hc hu this
          rwa [show c.2.2 + (s' - (s + c.2.2)) = s' - s by omega] at w
        · cases h
      · cases h
    · cases h
theorem way_goL {bs : List Bn} {u v s : Int} {l : List Nat} (h : Way bs u l v s) : ∀ s0 : Int, goL bs u s0 (ints l) = some (v, s0 + s) := by
  induction h with
  | nil u => intro s0; rw [Int.add_zero]; rfl
  | @cons u i c l v s hi hu h ih =>
    intro s0
    have e : ints (i :: l) = (i : Int) :: ints l := rfl
    rw [e]
    unfold goL
    rw [if_pos (by omega), Int.toNat_natCast, hi]
    dsimp only
    rw [if_pos hu, ih, Int.add_assoc]
theorem shows_way {bs : List Bn} {f t m : Int} {l : List Int} (h : showsB bs (f, t, m) l = true) : ∃ l' s, Way bs f l' t s ∧ s ≤ m := by
  unfold showsB at h
  simp only [Bool.and_eq_true] at h
  obtain ⟨_, h⟩ := h
  cases e : goL bs f 0 l with
  | none => rw [e] at h; cases h
  | some p =>
    obtain ⟨v, s⟩ := p
    rw [e] at h
    simp only [Bool.and_eq_true, decide_eq_true_eq] at h
    obtain ⟨rfl, hs⟩ := h
    have := goL_way l f 0 v s e
    rw [Int.sub_zero] at this
    exact ⟨_, s, this, hs⟩
theorem way_shows {bs : List Bn} {f t m s : Int} {l : List Nat} (h : Way bs f l t s) (hs : s ≤ m) (hl : l.length ≤ 60) : showsB bs (f, t, m) (ints l) = true := by
  unfold showsB
  rw [way_goL h 0]
  simp only [Bool.and_eq_true, decide_eq_true_eq, ints_len]
  exact ⟨hl, trivial, by omega⟩
section imp
variable {bs : List Bn} {n : Nat} {f t m : Int} (ho : Okb n bs) (hn : n ≤ 16) (hf : Fine bs)
include ho hn hf
/-- A chain that shows a bound: the distance is at most it. -/
theorem check_tb {l : List Int} (h : checkChainB (n : Int) bs (f, t, m) l = true) : tb bs n f t ≤ m := by
  unfold checkChainB at h
  simp only [Bool.and_eq_true] at h
  obtain ⟨l', s, hw, hs⟩ := shows_way h.2
  have := fine_way ho (by omega) hf hw
  omega
omit hf in
/-- The chain that Implied answers is accepted. -/
theorem check_own {l : List Nat} (h : shO bs n f t m = some l) (hm : -1000000000 ≤ m ∧ m ≤ 1000000000) (hv : validB (n : Int) bs = true) (hx : bndB (n : Int) (f, t, m) = true) : checkChainB (n : Int) bs (f, t, m) (ints l) = true := by
  obtain ⟨k, hk, hF, rfl⟩ := shO_some.1 h
  obtain ⟨h1, s, hw, hs⟩ := folL_way ho (by omega) hF (by unfold Sm; omega)
  unfold checkChainB
  rw [hv, hx, way_shows hw hs (by omega)]
  rfl
omit hf in
theorem shO_is : (shO bs n f t m).isSome = decide (tb bs n f t ≤ m) := by
  cases h : shO bs n f t m with
  | none =>
    have := shO_none.1 h n (Nat.le_refl _)
    exact (decide_eq_false (by omega)).symm
  | some l =>
    obtain ⟨k, hk, hF, _⟩ := shO_some.1 h
    have h1 := hF.1
    have h2 := tb_mono ho hk (by omega) f t
    exact (decide_eq_true (by omega)).symm
/-- The opposite of a bound that is not implied brings no contradiction. -/
theorem rev_fine (hb : ∀ c ∈ bs, -268 ≤ c.2.2 ∧ c.2.2 ≤ 268) (hm : m ≤ 900000000) (h : m < tb bs n f t) : Fine (bs ++ [(t, f, -m - 1)]) := by
  refine Fine.of_pot (x := thr n bs f) fun c hc => ?_
  rcases List.mem_append.1 hc with q | q
  · exact thr_keeps ho hn hf hb f c q
  · have e : c = (t, f, -m - 1) := by simpa using q
    subst e
    show thr n bs f f - thr n bs f t ≤ -m - 1
    rw [thr_self hf f]
    have h2 := sol_268 (n := n) hb hn t
    unfold thr
    split <;> omega
end imp
end Go.Proofs.Ytkeimfkaoianmaa
