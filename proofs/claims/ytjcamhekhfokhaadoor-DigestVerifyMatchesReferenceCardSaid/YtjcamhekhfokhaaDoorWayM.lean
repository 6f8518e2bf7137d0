/- What dialtonelaw02.way comes to, and that two accepted proofs of different entries hold a collision. -/
import Derived.Test.YtjcamhekhfokhaaDoorApp
namespace Go.Proofs.YtjcamhekhfokhaaDoor
open Go.RowKit

/-- The text that a node's digest is computed of. -/
def nodeT (a b : ByteArray) : ByteArray := ⟨#[1]⟩ ++ a ++ b
def leafT (s : ByteArray) : ByteArray := ⟨#[0]⟩ ++ s
theorem nodeT_sum (a b : ByteArray) : sumS (nodeT a b) = nodeS a b := by
  unfold sumS nodeS nodeT; congr 1
theorem leafT_sum (s : ByteArray) : sumS (leafT s) = leafS s := by
  unfold sumS leafS leafT; congr 1
theorem nodeT_inj {a b c d : ByteArray} (h : nodeT a b = nodeT c d) (hs : a.size = c.size) : a = c ∧ b = d := by
  have h1 : (nodeT a b).data.toList = (nodeT c d).data.toList := by rw [h]
  simp [nodeT, ByteArray.data_append] at h1
  have := List.append_inj h1 (by simpa using hs)
  exact ⟨ByteArray.ext (Array.toList_inj.1 this.1), ByteArray.ext (Array.toList_inj.1 this.2)⟩
theorem leafT_inj {a b : ByteArray} (h : leafT a = leafT b) : a = b := by
  have h1 : (leafT a).data.toList = (leafT b).data.toList := by rw [h]
  simp [leafT, ByteArray.data_append] at h1
  exact ByteArray.ext h1

/-- The strings from the root on, and the value; the proof's last element first. -/
def wayR (s : ByteArray) : List ByteArray → Nat → Nat → List ByteArray × ByteArray
  | [], _, _ => ([leafT s], leafS s)
  | x :: r, n, i => if n ≤ 1 then ([leafT s], leafS s) else
      if i < half n then (nodeT (wayR s r (half n) i).2 x :: (wayR s r (half n) i).1, nodeS (wayR s r (half n) i).2 x)
      else (nodeT x (wayR s r (n - half n) (i - half n)).2 :: (wayR s r (n - half n) (i - half n)).1, nodeS x (wayR s r (n - half n) (i - half n)).2)
theorem wayR_size (s : ByteArray) : ∀ (r : List ByteArray) (n i : Nat), (wayR s r n i).2.size = 32
  | [], n, i => leafS_size s
  | x :: r, n, i => by
    unfold wayR; split
    · exact leafS_size s
    · split <;> exact nodeS_size _ _
theorem nodeT_size (a b : ByteArray) : (nodeT a b).size = a.size + b.size + 1 := by
  unfold nodeT; rw [ByteArray.size_append, ByteArray.size_append]
  show 1 + a.size + b.size = _; omega
theorem leafT_size (a : ByteArray) : (leafT a).size = a.size + 1 := by
  unfold leafT; rw [ByteArray.size_append]
  show 1 + a.size = _; omega
theorem wayR_len (s : ByteArray) : ∀ (r : List ByteArray) (n i : Nat), (wayR s r n i).1.length ≤ r.length + 1
  | [], n, i => by simp [wayR]
  | x :: r, n, i => by
    unfold wayR; split
    · simp
    · split
      · have := wayR_len s r (half n) i; simp; omega
      · have := wayR_len s r (n - half n) (i - half n); simp; omega
theorem wayR_sizes (s : ByteArray) (hs : s.size ≤ 1000) : ∀ (r : List ByteArray) (n i : Nat), (∀ x ∈ r, x.size ≤ 1000) → ∀ x ∈ (wayR s r n i).1, x.size ≤ 2000
  | [], n, i, _, x, hx => by simp [wayR] at hx; subst hx; rw [leafT_size]; omega
  | y :: r, n, i, hr, x, hx => by
    have hy := hr y (by simp)
    unfold wayR at hx; split at hx
    · simp at hx; subst hx; rw [leafT_size]; omega
    · split at hx
      · rcases List.mem_cons.1 hx with rfl | hx
        · rw [nodeT_size, wayR_size]; omega
        · exact wayR_sizes s hs r _ _ (fun z hz => hr z (by simp [hz])) x hx
      · rcases List.mem_cons.1 hx with rfl | hx
        · rw [nodeT_size, wayR_size]; omega
        · exact wayR_sizes s hs r _ _ (fun z hz => hr z (by simp [hz])) x hx
theorem valueR_nil (s : ByteArray) (n i : Nat) : valueR s [] n i = if n = 1 then (leafS s, true) else (⟨#[]⟩, false) := rfl
theorem valueR_cons (s x : ByteArray) (r : List ByteArray) (n i : Nat) : valueR s (x :: r) n i = if n = 1 then (leafS s, false) else
      if i < half n then (nodeS (valueR s r (half n) i).1 x, (valueR s r (half n) i).2) else (nodeS x (valueR s r (n - half n) (i - half n)).1, (valueR s r (n - half n) (i - half n)).2) := rfl
theorem wayR_cons (s x : ByteArray) (r : List ByteArray) (n i : Nat) : wayR s (x :: r) n i = if n ≤ 1 then ([leafT s], leafS s) else
      if i < half n then (nodeT (wayR s r (half n) i).2 x :: (wayR s r (half n) i).1, nodeS (wayR s r (half n) i).2 x)
      else (nodeT x (wayR s r (n - half n) (i - half n)).2 :: (wayR s r (n - half n) (i - half n)).1, nodeS x (wayR s r (n - half n) (i - half n)).2) := rfl
theorem value_way (s : ByteArray) : ∀ (r : List ByteArray) (n i : Nat), i < n → (valueR s r n i).2 = true → (valueR s r n i).1 = (wayR s r n i).2
  | [], n, i, hi, h => by
    rw [valueR_nil] at h ⊢
    by_cases h1 : n = 1
    · rw [if_pos h1]; rfl
    · rw [if_neg h1] at h; simp at h
  | x :: r, n, i, hi, h => by
    rw [valueR_cons] at h ⊢
    by_cases h1 : n = 1
    · rw [if_pos h1] at h; simp at h
    · have hl := half_lt (n := n) (by omega)
      rw [if_neg h1] at h ⊢
      rw [wayR_cons, if_neg (show ¬ n ≤ 1 by omega)]
      by_cases h2 : i < half n
      · rw [if_pos h2] at h ⊢
        rw [if_pos h2, value_way s r _ _ h2 h]
      · rw [if_neg h2] at h ⊢
        rw [if_neg h2, value_way s r _ _ (by omega) h]
theorem value_len (s s' : ByteArray) : ∀ (r r' : List ByteArray) (n i : Nat), (valueR s r n i).2 = true → (valueR s' r' n i).2 = true → r.length = r'.length
  | [], [], _, _, _, _ => rfl
  | [], y :: r', n, i, h, h' => by
    rw [valueR_nil] at h
    rw [valueR_cons] at h'
    by_cases h1 : n = 1
    · rw [if_pos h1] at h'; simp at h'
    · rw [if_neg h1] at h; simp at h
  | x :: r, [], n, i, h, h' => by
    rw [valueR_cons] at h
    rw [valueR_nil] at h'
    by_cases h1 : n = 1
    · rw [if_pos h1] at h; simp at h
    · rw [if_neg h1] at h'; simp at h'
  | x :: r, y :: r', n, i, h, h' => by
    rw [valueR_cons] at h h'
    by_cases h1 : n = 1
    · rw [if_pos h1] at h; simp at h
    · rw [if_neg h1] at h h'
      by_cases h2 : i < half n
      · rw [if_pos h2] at h h'
        have := value_len s s' r r' _ _ h h'
        simp [this]
      · rw [if_neg h2] at h h'
        have := value_len s s' r r' _ _ h h'
        simp [this]

/-- Two lists of strings hold, at one index, two different strings of the same digest. -/
def Clash (a b : List ByteArray) : Prop := ∃ (j : Nat) (x y : ByteArray), a[j]? = some x ∧ b[j]? = some y ∧ x ≠ y ∧ sumS x = sumS y
theorem Clash.tail {a b : List ByteArray} {x y : ByteArray} (h : Clash a b) : Clash (x :: a) (y :: b) := by
  obtain ⟨j, u, v, h1, h2, h3, h4⟩ := h
  exact ⟨j + 1, u, v, by simpa using h1, by simpa using h2, h3, h4⟩
theorem Clash.head {a b : List ByteArray} {x y : ByteArray} (h : x ≠ y) (hs : sumS x = sumS y) : Clash (x :: a) (y :: b) := ⟨0, x, y, rfl, rfl, h, hs⟩
theorem way_clash (s t : ByteArray) (hne : s ≠ t) : ∀ (r r' : List ByteArray) (n i : Nat), r.length = r'.length → (∀ x ∈ r, x.size = 32) → (∀ x ∈ r', x.size = 32) → (wayR s r n i).2 = (wayR t r' n i).2 → Clash (wayR s r n i).1 (wayR t r' n i).1
  | [], [], n, i, _, _, _, h => Clash.head (fun e => hne (leafT_inj e)) (by rw [leafT_sum, leafT_sum]; exact h)
  | [], y :: r', n, i, hl, _, _, h => by simp at hl
  | x :: r, [], n, i, hl, _, _, h => by simp at hl
  | x :: r, y :: r', n, i, hl, hx, hy, h => by
    have hl' : r.length = r'.length := by simpa using hl
    have hx' : ∀ z ∈ r, z.size = 32 := fun z hz => hx z (by simp [hz])
    have hy' : ∀ z ∈ r', z.size = 32 := fun z hz => hy z (by simp [hz])
    rw [wayR_cons, wayR_cons] at h ⊢
    by_cases h1 : n ≤ 1
    · rw [if_pos h1, if_pos h1] at h ⊢
      exact Clash.head (fun e => hne (leafT_inj e)) (by rw [leafT_sum, leafT_sum]; exact h)
    · rw [if_neg h1, if_neg h1] at h ⊢
      by_cases h2 : i < half n
      · rw [if_pos h2, if_pos h2] at h ⊢
        by_cases he : nodeT (wayR s r (half n) i).2 x = nodeT (wayR t r' (half n) i).2 y
        · exact (way_clash s t hne r r' _ _ hl' hx' hy' (nodeT_inj he (by rw [wayR_size, wayR_size])).1).tail
        · exact Clash.head he (by rw [nodeT_sum, nodeT_sum]; exact h)
      · rw [if_neg h2, if_neg h2] at h ⊢
        by_cases he : nodeT x (wayR s r (n - half n) (i - half n)).2 = nodeT y (wayR t r' (n - half n) (i - half n)).2
        · exact (way_clash s t hne r r' _ _ hl' hx' hy' (nodeT_inj he (by rw [hx x (by simp), hy y (by simp)])).2).tail
        · exact Clash.head he (by rw [nodeT_sum, nodeT_sum]; exact h)
end Go.Proofs.YtjcamhekhfokhaaDoor
