/- Plain mathematics: strings round trip, what String accepts, prefixes. -/
import Derived.Test.YtcmeplgkillbdaaDoorMath
namespace Go.Proofs.YtcmeplgkillbdaaDoor

theorem stringS_enc (t p q : List UInt8) (ht : t.length ≤ 65536) : stringS (p ++ (enc t.length ++ t) ++ q) p.length = (t, (p.length : Int) + (enc t.length ++ t).length, 0) := by
  have h := intS_enc t.length (by unfold maxInt; omega) (by unfold maxInt; omega) p (t ++ q)
  have e : p ++ (enc t.length ++ t) ++ q = p ++ enc t.length ++ (t ++ q) := by simp [List.append_assoc]
  unfold stringS
  rw [e, h]
  simp only [if_true]
  rw [if_neg (by simp only [List.length_append]; omega)]
  have d : (p ++ enc t.length ++ (t ++ q)).drop ((p.length : Int) + (enc (t.length : Int)).length).toNat = t ++ q := by
    rw [show ((p.length : Int) + (enc (t.length : Int)).length).toNat = (p ++ enc t.length).length by simp only [List.length_append]; omega]
    exact List.drop_left
  rw [d, Int.toNat_natCast, List.take_left]
  simp only [List.length_append]
  congr 2
  omega

theorem stringS_ok {l v : List UInt8} {k nx : Int} (h : stringS l k = (v, nx, 0)) :
    0 ≤ k ∧ v.length ≤ 65536 ∧ nx = k + (enc v.length ++ v).length ∧ nx ≤ l.length ∧ (l.drop k.toNat).take (enc v.length ++ v).length = enc v.length ++ v := by
  obtain ⟨n, next, e, hi⟩ : ∃ n next e, intS l k = (n, next, e) := ⟨_, _, _, rfl⟩
  unfold stringS at h
  rw [hi] at h
  simp only at h
  by_cases he : e = 0
  · subst he
    rw [if_pos rfl] at h
    obtain ⟨b1, b2, b3, b4, b5, b6⟩ := intS_ok hi
    by_cases hn : n < 0 ∨ 65536 < n ∨ (l.length : Int) - next < n
    · rw [if_pos hn] at h; simp at h
    · rw [if_neg hn] at h
      simp only [Prod.mk.injEq, and_true] at h
      obtain ⟨h1, h2⟩ := h
      have hv : v.length = n.toNat := by
        rw [← h1, List.length_take, List.length_drop]; omega
      have hn' : (v.length : Int) = n := by omega
      rw [← hn'] at b4 b6
      refine ⟨b1, by omega, by rw [List.length_append]; omega, by omega, ?_⟩
      have e2 : ((l.drop k.toNat).drop (enc v.length).length).take v.length = v := by
        rw [List.drop_drop, show k.toNat + (enc v.length).length = next.toNat by omega, hv]
        exact h1
      rw [List.length_append, List.take_add, b6, e2]
  · rw [if_neg he] at h
    simp only [Prod.mk.injEq] at h
    exact absurd h.2.2 he
theorem stringS_err (l : List UInt8) (k : Int) : (stringS l k).2.2 = 0 ∨ ((stringS l k).1 = [] ∧ (stringS l k).2.1 = 0 ∧ ((stringS l k).2.2 = 2 ∧ (k < 0 ∨ (l.length : Int) < k) ∨ (stringS l k).2.2 = 10)) := by
  obtain ⟨n, next, e, hi⟩ : ∃ n next e, intS l k = (n, next, e) := ⟨_, _, _, rfl⟩
  have h := intS_err l k
  unfold stringS
  rw [hi] at h ⊢
  simp only at h ⊢
  by_cases he : e = 0
  · rw [if_pos he]
    by_cases hn : n < 0 ∨ 65536 < n ∨ (l.length : Int) - next < n
    · rw [if_pos hn]; right; exact ⟨rfl, rfl, .inr rfl⟩
    · rw [if_neg hn]; left; rfl
  · rw [if_neg he]
    right
    rcases h with h | ⟨_, _, h⟩
    · exact absurd h he
    · exact ⟨rfl, rfl, h⟩

theorem enc_prefix {n m : Int} {r : List UInt8} (n1 : -maxInt ≤ n) (n2 : n ≤ maxInt) (m1 : -maxInt ≤ m) (m2 : m ≤ maxInt) (h : enc n = enc m ++ r) : n = m := by
  have h1 := intS_enc n n1 n2 [] []
  have h2 := intS_enc m m1 m2 [] r
  simp only [List.nil_append, List.append_nil] at h1 h2
  rw [h, h2] at h1
  simp only [Prod.mk.injEq] at h1
  exact h1.1.symm
/-- No proper beginning of an encoding is accepted. -/
theorem intS_cut (n : Int) (n1 : -maxInt ≤ n) (n2 : n ≤ maxInt) (j : Nat) (hj : j < (enc n).length) : (intS ((enc n).take j) 0).2.2 = 10 := by
  have hl : ((enc n).take j).length = j := by rw [List.length_take]; omega
  obtain ⟨m, next, e, hi⟩ : ∃ m next e, intS ((enc n).take j) 0 = (m, next, e) := ⟨_, _, _, rfl⟩
  rcases intS_err ((enc n).take j) 0 with h | ⟨_, _, h⟩
  · rw [hi] at h
    simp only at h
    subst h
    obtain ⟨_, b2, b3, b4, b5, b6⟩ := intS_ok hi
    rw [hl] at b5
    simp only [Int.toNat_zero, List.drop_zero] at b6
    have hp : enc n = enc m ++ (enc n).drop (enc m).length := by
      have : (enc n).take (enc m).length = enc m := by
        have := b6
        rw [List.take_take, Nat.min_eq_left (by omega)] at this
        exact this
      have h2 := (List.take_append_drop (enc m).length (enc n)).symm
      rw [this] at h2
      exact h2
    have := enc_prefix n1 n2 b2 b3 hp
    subst this
    omega
  · rcases h with ⟨_, h⟩ | h
    · omega
    · exact h
theorem stringS_cut (t : List UInt8) (ht : t.length ≤ 65536) (j : Nat) (hj : j < (enc t.length ++ t).length) : (stringS ((enc t.length ++ t).take j) 0).2.2 = 10 := by
  have hl : ((enc t.length ++ t).take j).length = j := by rw [List.length_take]; omega
  obtain ⟨v, next, e, hi⟩ : ∃ n next e, stringS ((enc t.length ++ t).take j) 0 = (n, next, e) := ⟨_, _, _, rfl⟩
  rcases stringS_err ((enc t.length ++ t).take j) 0 with h | ⟨_, _, h⟩
  · rw [hi] at h
    simp only at h
    subst h
    obtain ⟨_, b2, b4, b5, b6⟩ := stringS_ok hi
    rw [hl] at b5
    simp only [Int.toNat_zero, List.drop_zero] at b6
    have hp : enc t.length ++ t = (enc v.length ++ v) ++ (enc t.length ++ t).drop (enc v.length ++ v).length := by
      have : (enc t.length ++ t).take (enc v.length ++ v).length = enc v.length ++ v := by
        have := b6
        rw [List.take_take, Nat.min_eq_left (by omega)] at this
        exact this
      have h2 := (List.take_append_drop (enc v.length ++ v).length (enc t.length ++ t)).symm
      rw [this] at h2
      exact h2
    have h1 := stringS_enc t [] [] ht
    have h2 := stringS_enc v [] ((enc t.length ++ t).drop (enc v.length ++ v).length) b2
    simp only [List.nil_append, List.append_nil] at h1 h2
    rw [hp, h2] at h1
    simp only [Prod.mk.injEq] at h1
    obtain ⟨rfl, _⟩ := h1
    omega
  · rcases h with ⟨_, h⟩ | h
    · omega
    · exact h
end Go.Proofs.YtcmeplgkillbdaaDoor
