/- What BetweenMore says of distances, plainly. -/
import Derived.Test.YtkeimfkaoianmaaMl
import Derived.Test.YtkeimfkaoianmaaImp
import Derived.Test.YtkeimfkaoianmaaEx
namespace Go.Proofs.Ytkeimfkaoianmaa
open Go.RowKit

theorem Way.more {bs es : List Bn} {u v s : Int} {l : List Nat} (h : Way bs u l v s) : Way (bs ++ es) u l v s := by
  induction h with
  | nil u => exact .nil u
  | cons hi hu h ih => exact .cons (by rw [List.getElem?_append_left (List.getElem?_eq_some_iff.1 hi).1]; exact hi) hu ih
section more
variable {bs : List Bn} {n : Nat} {f t m : Int}
theorem more_le (ho : Okb n (bs ++ [(f, t, m)])) (hn : n ≤ 16) (hf : Fine (bs ++ [(f, t, m)])) (i j : Int) : tb (bs ++ [(f, t, m)]) n i j ≤ tb bs n i j := by
  by_cases e : tb bs n i j = farI
  · rw [e]; exact tb_far _ _ _ _
  · obtain ⟨l, _, hw⟩ := tb_way n e
    exact fine_way ho (by omega) hf hw.more
theorem more_step (ho : Okb n bs) (hn : n ≤ 16) (hf : Fine bs) (hm : m ≤ 1000000000) (hi : tb bs n f t ≤ m) {u v s : Int} {l : List Nat} (h : Way (bs ++ [(f, t, m)]) u l v s) : tb bs n u v ≠ farI ∧ tb bs n u v ≤ s := by
  induction h with
  | nil u =>
    rw [fine_self (n := n) hf u]
    exact ⟨by decide, Int.le_refl _⟩
  | @cons u i c l v s hi' hu h ih =>
    subst hu
    have one : tb bs n c.1 c.2.1 ≤ c.2.2 ∧ c.2.2 ≤ 1000000000 := by
      rcases Nat.lt_or_ge i bs.length with k | k
      · rw [List.getElem?_append_left k] at hi'
        have h1 := fine_way ho (by omega) hf (Way.one hi')
        exact ⟨h1, (ho.at hi').2.2.2⟩
      · rw [List.getElem?_append_right k] at hi'
        have e : i - bs.length = 0 := by
          rcases Nat.eq_zero_or_pos (i - bs.length) with q | q
          · exact q
          · rw [List.getElem?_eq_none (by simp only [List.length_cons, List.length_nil]; omega)] at hi'; cases hi'
        rw [e] at hi'
        cases hi'
        exact ⟨hi, hm⟩
    have f1 : tb bs n c.1 c.2.1 ≠ farI := by unfold farI; omega
    have b1 := tb_bd ho f1
    have b2 := tb_bd ho ih.1
    have h3 := fine_tri ho (by omega) hf f1 ih.1
    refine ⟨by unfold farI; omega, by omega⟩
theorem more_same (ho : Okb n (bs ++ [(f, t, m)])) (hn : n ≤ 16) (hf : Fine (bs ++ [(f, t, m)])) (i0 : 0 ≤ f ∧ f < n) (j0 : 0 ≤ t ∧ t < n) :
    decide (tb bs n f t ≤ m) = decide (tblL n (tb (bs ++ [(f, t, m)]) n) = tblL n (tb bs n)) := by
  have hm : m ≤ 1000000000 := (ho (f, t, m) (by simp)).2.2.2
  have ho' : Okb n bs := fun c hc => ho c (by simp [hc])
  have hf' : Fine bs := fun l ⟨u, s, h, hs⟩ => hf l ⟨u, s, h.more, hs⟩
  refine decide_eq_decide.2 ⟨fun h => ?_, fun h => ?_⟩
  · unfold tblL
    refine List.map_congr_left fun i _ => List.map_congr_left fun j _ => ?_
    have h1 := more_le ho hn hf (i : Int) (j : Int)
    by_cases e : tb (bs ++ [(f, t, m)]) n (i : Int) (j : Int) = farI
    · have := tb_far bs n (i : Int) (j : Int)
      omega
    · obtain ⟨l, _, hw⟩ := tb_way n e
      have := (more_step ho' hn hf' hm h hw).2
      omega
  · obtain ⟨a, rfl⟩ := Int.eq_ofNat_of_zero_le i0.1
    obtain ⟨b, rfl⟩ := Int.eq_ofNat_of_zero_le j0.1
    have h2 := fine_way ho (by omega) hf (Way.one (i := bs.length) (c := ((a : Int), (b : Int), m)) (by simp))
    dsimp only at h2
    have g : ∀ g : Int → Int → Int, ((tblL n g)[a]?.bind fun r => r[b]?) = some (g a b) := fun g => by
      unfold tblL
      rw [List.getElem?_map, List.getElem?_range (by omega)]
      simp only [Option.map_some, Option.bind_some]
      rw [List.getElem?_map, List.getElem?_range (by omega)]
      rfl
    have e := (g (tb (bs ++ [((a : Int), (b : Int), m)]) n)).symm.trans ((by rw [h]) : _ = _) |>.trans (g (tb bs n))
    have e2 := Option.some.inj e
    omega
end more
theorem implied_is (n : Nat) (bs : List Bn) (A : Option Addr) (c : Nat) (f t m : Int) (hf : fineB (n : Int) bs = true) (hx : bndB (n : Int) (f, t, m) = true) (hbl : bs.length ≤ 9223372036854775807) (w : World) (hr : Rds w w.heap.size A bs) :
    Calls Try.prog 33 #[btw n A bs.length c, bnd (f, t, m)] w fun e w' => ∃ v, e = .returned (.tuple #[v, .bool (decide (tb bs n f t ≤ m))]) ∧ Below w.heap.size w w' := by
  have hv : validB (n : Int) bs = true := by
    rw [fineB_nat] at hf
    simp only [Bool.and_eq_true] at hf
    exact hf.1
  obtain ⟨⟨_, hn⟩, _, ho⟩ := validB_iff.1 hv
  refine (implied_yes n bs A c f t m hf hx hbl w hr).mono ?_
  intro e w' hp
  rcases hp with ⟨k, g, cap, hk, h2, rfl, _, hb⟩ | ⟨h1, rfl, hb⟩
  · have h3 := h2.1
    have h4 := tb_mono ho hk (by omega) f t
    rw [decide_eq_true (show tb bs n f t ≤ m by omega)]
    exact ⟨_, rfl, hb⟩
  · have := h1 n (Nat.le_refl _)
    rw [decide_eq_false (by omega)]
    exact ⟨_, rfl, hb⟩
end Go.Proofs.Ytkeimfkaoianmaa
