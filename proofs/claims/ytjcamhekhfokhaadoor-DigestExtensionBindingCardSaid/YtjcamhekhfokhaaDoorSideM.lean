/- What dialtonelaw02.sides comes to, and that two accepted extensions of different beginnings hold a collision. -/
import Derived.Test.YtjcamhekhfokhaaDoorColl
namespace Go.Proofs.YtjcamhekhfokhaaDoor
open Go.RowKit

def sidesR (old : ByteArray) : List ByteArray → Nat → Nat → Bool → List ByteArray × ByteArray
  | [], _, _, _ => ([], old)
  | x :: r, m, n, wh => if n ≤ m then (if wh = true then ([], old) else ([], (r.reverse ++ [x]).headD ⟨#[]⟩)) else
      if m ≤ half n then (nodeT (sidesR old r m (half n) wh).2 x :: (sidesR old r m (half n) wh).1, nodeS (sidesR old r m (half n) wh).2 x)
      else (nodeT x (sidesR old r (m - half n) (n - half n) false).2 :: (sidesR old r (m - half n) (n - half n) false).1, nodeS x (sidesR old r (m - half n) (n - half n) false).2)
theorem sidesR_nil (old : ByteArray) (m n : Nat) (wh : Bool) : sidesR old [] m n wh = ([], old) := rfl
theorem sidesR_cons (old x : ByteArray) (r : List ByteArray) (m n : Nat) (wh : Bool) : sidesR old (x :: r) m n wh = if n ≤ m then (if wh = true then ([], old) else ([], (r.reverse ++ [x]).headD ⟨#[]⟩)) else
      if m ≤ half n then (nodeT (sidesR old r m (half n) wh).2 x :: (sidesR old r m (half n) wh).1, nodeS (sidesR old r m (half n) wh).2 x)
      else (nodeT x (sidesR old r (m - half n) (n - half n) false).2 :: (sidesR old r (m - half n) (n - half n) false).1, nodeS x (sidesR old r (m - half n) (n - half n) false).2) := rfl
theorem twoR_nil (old : ByteArray) (m n : Nat) (wh : Bool) : twoR old [] m n wh = if m = n ∧ wh = true then (old, old, true) else (⟨#[]⟩, ⟨#[]⟩, false) := rfl
theorem twoR_cons (old x : ByteArray) (r : List ByteArray) (m n : Nat) (wh : Bool) : twoR old (x :: r) m n wh = if m = n ∧ wh = true then (old, old, false) else if m = n then (x, x, r.isEmpty) else
      if m ≤ half n then ((twoR old r m (half n) wh).1, nodeS (twoR old r m (half n) wh).2.1 x, (twoR old r m (half n) wh).2.2)
      else (nodeS x (twoR old r (m - half n) (n - half n) false).1, nodeS x (twoR old r (m - half n) (n - half n) false).2.1, (twoR old r (m - half n) (n - half n) false).2.2) := rfl
theorem headD_small : ∀ (l : List ByteArray), (∀ y ∈ l, y.size ≤ 1000) → (l.headD ⟨#[]⟩).size ≤ 1000
  | [], _ => by decide
  | x :: l, h => h x (by simp)
theorem sidesR_small (old : ByteArray) (ho : old.size ≤ 1000) : ∀ (r : List ByteArray) (m n : Nat) (wh : Bool), (∀ y ∈ r, y.size ≤ 1000) → (sidesR old r m n wh).2.size ≤ 1000
  | [], m, n, wh, _ => ho
  | x :: r, m, n, wh, hr => by
    rw [sidesR_cons]; split
    · split
      · exact ho
      · exact headD_small _ (fun y hy => hr y (by simp at hy; simp; exact hy.symm))
    · split <;> (dsimp only; rw [nodeS_size]; decide)
theorem sidesR_len (old : ByteArray) : ∀ (r : List ByteArray) (m n : Nat) (wh : Bool), (sidesR old r m n wh).1.length ≤ r.length
  | [], m, n, wh => by simp [sidesR]
  | x :: r, m, n, wh => by
    rw [sidesR_cons]; split
    · split <;> simp
    · split
      · have := sidesR_len old r m (half n) wh; simp; omega
      · have := sidesR_len old r (m - half n) (n - half n) false; simp; omega
theorem sidesR_sizes (old : ByteArray) (ho : old.size ≤ 1000) : ∀ (r : List ByteArray) (m n : Nat) (wh : Bool), (∀ y ∈ r, y.size ≤ 900) → ∀ y ∈ (sidesR old r m n wh).1, y.size ≤ 2000
  | [], m, n, wh, _, y, hy => by simp [sidesR] at hy
  | x :: r, m, n, wh, hr, y, hy => by
    have hx := hr x (by simp)
    rw [sidesR_cons] at hy; split at hy
    · split at hy <;> simp at hy
    · split at hy
      · rcases List.mem_cons.1 hy with rfl | hy
        · have := sidesR_small old ho r m (half n) wh (fun z hz => Nat.le_trans (hr z (by simp [hz])) (by decide))
          rw [nodeT_size]; omega
        · exact sidesR_sizes old ho r _ _ _ (fun z hz => hr z (by simp [hz])) y hy
      · rcases List.mem_cons.1 hy with rfl | hy
        · have := sidesR_small old ho r (m - half n) (n - half n) false (fun z hz => Nat.le_trans (hr z (by simp [hz])) (by decide))
          rw [nodeT_size]; omega
        · exact sidesR_sizes old ho r _ _ _ (fun z hz => hr z (by simp [hz])) y hy
theorem two_side (old : ByteArray) : ∀ (r : List ByteArray) (m n : Nat) (wh : Bool), m ≤ n → (twoR old r m n wh).2.2 = true → (twoR old r m n wh).2.1 = (sidesR old r m n wh).2
  | [], m, n, wh, hm, h => by
    rw [twoR_nil] at h ⊢
    by_cases h1 : m = n ∧ wh = true
    · rw [if_pos h1]; rfl
    · rw [if_neg h1] at h; simp at h
  | x :: r, m, n, wh, hm, h => by
    rw [twoR_cons] at h ⊢
    rw [sidesR_cons]
    by_cases h1 : m = n ∧ wh = true
    · rw [if_pos h1] at h; simp at h
    · rw [if_neg h1] at h ⊢
      by_cases h2 : m = n
      · rw [if_pos h2] at h ⊢
        have hw : ¬ wh = true := fun e => h1 ⟨h2, e⟩
        have hr : r = [] := by simpa using h
        rw [if_pos (by omega), if_neg hw, hr]; rfl
      · rw [if_neg h2] at h ⊢
        rw [if_neg (show ¬ n ≤ m by omega)]
        by_cases h3 : m ≤ half n
        · rw [if_pos h3] at h ⊢
          rw [if_pos h3, two_side old r _ _ _ h3 h]
        · rw [if_neg h3] at h ⊢
          rw [if_neg h3, two_side old r _ _ _ (by omega) h]
theorem two_size (old : ByteArray) (ho : old.size = 32) : ∀ (r : List ByteArray) (m n : Nat) (wh : Bool), (∀ y ∈ r, y.size = 32) → (twoR old r m n wh).2.2 = true → (twoR old r m n wh).2.1.size = 32
  | [], m, n, wh, hr, h => by
    rw [twoR_nil] at h ⊢
    by_cases h1 : m = n ∧ wh = true
    · rw [if_pos h1]; exact ho
    · rw [if_neg h1] at h; simp at h
  | x :: r, m, n, wh, hr, h => by
    rw [twoR_cons] at h ⊢
    split
    · exact ho
    · split
      · exact hr x (by simp)
      · split <;> exact nodeS_size _ _
theorem side_clash (a b : ByteArray) (ha : a.size = 32) (hb : b.size = 32) : ∀ (r r' : List ByteArray) (m n : Nat) (wh : Bool), m ≤ n → (∀ y ∈ r, y.size = 32) → (∀ y ∈ r', y.size = 32) →
    (twoR a r m n wh).2.2 = true → (twoR b r' m n wh).2.2 = true → (twoR a r m n wh).2.1 = (twoR b r' m n wh).2.1 → Clash (sidesR a r m n wh).1 (sidesR b r' m n wh).1 ∨ (twoR a r m n wh).1 = (twoR b r' m n wh).1
  | [], [], m, n, wh, hm, _, _, h, h', he => by
    rw [twoR_nil] at h he ⊢
    rw [twoR_nil] at h' he ⊢
    by_cases h1 : m = n ∧ wh = true
    · rw [if_pos h1, if_pos h1] at he ⊢; exact .inr he
    · rw [if_neg h1] at h; simp at h
  | [], y :: r', m, n, wh, hm, _, _, h, h', he => by
    rw [twoR_nil] at h
    rw [twoR_cons] at h'
    by_cases h1 : m = n ∧ wh = true
    · rw [if_pos h1] at h'; simp at h'
    · rw [if_neg h1] at h; simp at h
  | x :: r, [], m, n, wh, hm, _, _, h, h', he => by
    rw [twoR_cons] at h
    rw [twoR_nil] at h'
    by_cases h1 : m = n ∧ wh = true
    · rw [if_pos h1] at h; simp at h
    · rw [if_neg h1] at h'; simp at h'
  | x :: r, y :: r', m, n, wh, hm, hx, hy, h, h', he => by
    rw [twoR_cons] at h he ⊢
    rw [twoR_cons] at h' he ⊢
    rw [sidesR_cons, sidesR_cons]
    have hxr : ∀ z ∈ r, z.size = 32 := fun z hz => hx z (by simp [hz])
    have hyr : ∀ z ∈ r', z.size = 32 := fun z hz => hy z (by simp [hz])
    by_cases h1 : m = n ∧ wh = true
    · rw [if_pos h1] at h; simp at h
    · rw [if_neg h1] at h h'
      rw [if_neg h1, if_neg h1] at he ⊢
      by_cases h2 : m = n
      · rw [if_pos h2, if_pos h2] at he ⊢
        exact .inr he
      · rw [if_neg h2] at h h'
        rw [if_neg h2, if_neg h2] at he ⊢
        rw [if_neg (show ¬ n ≤ m by omega), if_neg (show ¬ n ≤ m by omega)]
        by_cases h3 : m ≤ half n
        · rw [if_pos h3] at h h'
          rw [if_pos h3, if_pos h3] at he ⊢
          rw [if_pos h3, if_pos h3]
          dsimp only at h h' he ⊢
          have va := two_side a r m (half n) wh h3 h
          have vb := two_side b r' m (half n) wh h3 h'
          have za := two_size a ha r m (half n) wh hxr h
          have zb := two_size b hb r' m (half n) wh hyr h'
          by_cases ht : nodeT (sidesR a r m (half n) wh).2 x = nodeT (sidesR b r' m (half n) wh).2 y
          · have hi := nodeT_inj ht (by rw [← va, ← vb, za, zb])
            rcases side_clash a b ha hb r r' m (half n) wh h3 hxr hyr h h' (by rw [va, vb]; exact hi.1) with hc | hc
            · exact .inl hc.tail
            · exact .inr hc
          · exact .inl (Clash.head ht (by rw [nodeT_sum, nodeT_sum, ← va, ← vb]; exact he))
        · rw [if_neg h3] at h h'
          rw [if_neg h3, if_neg h3] at he ⊢
          rw [if_neg h3, if_neg h3]
          dsimp only at h h' he ⊢
          have hm' : m - half n ≤ n - half n := by omega
          have va := two_side a r _ _ false hm' h
          have vb := two_side b r' _ _ false hm' h'
          by_cases ht : nodeT x (sidesR a r (m - half n) (n - half n) false).2 = nodeT y (sidesR b r' (m - half n) (n - half n) false).2
          · have hi := nodeT_inj ht (by rw [hx x (by simp), hy y (by simp)])
            rcases side_clash a b ha hb r r' _ _ false hm' hxr hyr h h' (by rw [va, vb]; exact hi.2) with hc | hc
            · exact .inl hc.tail
            · exact .inr (by rw [hi.1, hc])
          · exact .inl (Clash.head ht (by rw [nodeT_sum, nodeT_sum, ← va, ← vb]; exact he))
theorem verifyE_true {old rt : ByteArray} {m n : Int} {p : List ByteArray} (h : verifyE old m rt n p = true) :
    0 ≤ m ∧ m ≤ n ∧ old.size = 32 ∧ (∀ x ∈ p, x.size = 32) ∧ ((m = 0 ∧ old = root []) ∨ (m = n ∧ old = rt) ∨ (m ≠ 0 ∧ m ≠ n ∧ (twoR old p.reverse m.toNat n.toNat true).2.2 = true ∧ (twoR old p.reverse m.toNat n.toNat true).1 = old ∧ (twoR old p.reverse m.toNat n.toNat true).2.1 = rt)) := by
  rw [verifyE] at h
  by_cases hc : 0 ≤ m ∧ m ≤ n ∧ allDig [old, rt] = true ∧ allDig p = true
  · rw [if_pos hc] at h
    obtain ⟨h0, h1, h2, h3⟩ := hc
    have h4 : old.size = 32 ∧ rt.size = 32 := by simpa [allDig] using h2
    refine ⟨h0, h1, h4.1, by unfold allDig at h3; simpa using h3, ?_⟩
    by_cases m0 : m = 0
    · rw [if_pos m0] at h
      have h5 : p = [] ∧ old = root [] := by simpa using h
      exact .inl ⟨m0, h5.2⟩
    · rw [if_neg m0] at h
      by_cases mn : m = n
      · rw [if_pos mn] at h
        have h5 : p = [] ∧ old = rt := by simpa using h
        exact .inr (.inl ⟨mn, h5.2⟩)
      · rw [if_neg mn] at h
        have h5 : ((twoR old p.reverse m.toNat n.toNat true).2.2 = true ∧ (twoR old p.reverse m.toNat n.toNat true).1 = old) ∧ (twoR old p.reverse m.toNat n.toNat true).2.1 = rt := by simpa using h
        exact .inr (.inr ⟨m0, mn, h5.1.1, h5.1.2, h5.2⟩)
  · rw [if_neg hc] at h; simp at h
theorem ext_clash {a b rt : ByteArray} {m n : Int} {p q : List ByteArray} (hp : verifyE a m rt n p = true) (hq : verifyE b m rt n q = true) (hne : a ≠ b) :
    0 < m ∧ m < n ∧ Clash (sidesR a p.reverse m.toNat n.toNat true).1 (sidesR b q.reverse m.toNat n.toNat true).1 := by
  obtain ⟨a0, a1, a2, a3, a4⟩ := verifyE_true hp
  obtain ⟨b0, b1, b2, b3, b4⟩ := verifyE_true hq
  rcases a4 with ⟨m0, e⟩ | ⟨mn, e⟩ | ⟨x1, x2, x3, x4, x5⟩
  · rcases b4 with ⟨_, e'⟩ | ⟨mn', e'⟩ | ⟨y1, _⟩
    · exact absurd (e.trans e'.symm) hne
    · rw [m0] at mn'
      exfalso
      rw [verifyE] at hq
      split at hq
      · have h5 : q = [] ∧ b = root [] := by simpa using hq
        exact hne (e.trans h5.2.symm)
      · simp at hq
    · exact absurd m0 y1
  · rcases b4 with ⟨m0, e'⟩ | ⟨_, e'⟩ | ⟨_, y2, _⟩
    · exfalso
      rw [verifyE] at hp
      split at hp
      · have h5 : p = [] ∧ a = root [] := by simpa using hp
        exact hne (h5.2.trans e'.symm)
      · simp at hp
    · exact absurd (e.trans e'.symm) hne
    · exact absurd mn y2
  · rcases b4 with ⟨m0, _⟩ | ⟨mn, _⟩ | ⟨y1, y2, y3, y4, y5⟩
    · exact absurd m0 x1
    · exact absurd mn x2
    · refine ⟨by omega, by omega, ?_⟩
      rcases side_clash a b a2 b2 p.reverse q.reverse m.toNat n.toNat true (by omega) (fun x hx => a3 x (by simpa using hx)) (fun x hx => b3 x (by simpa using hx)) x3 y3 (by rw [x5, y5]) with h | h
      · exact h
      · rw [x4, y4] at h; exact absurd h hne
end Go.Proofs.YtjcamhekhfokhaaDoor
