/- The mathematics of the trees of digests: roots, proofs, extensions and what they are checked by. Plain. -/
import Derived.Test.YtjcamhekhfokhaaDoorHash
namespace Go.Proofs.YtjcamhekhfokhaaDoor

/-- The greatest power of two that is less than n (n at least 2). -/
def half (n : Nat) : Nat := 2 ^ Nat.log2 (n - 1)
theorem half_pos (n : Nat) : 0 < half n := Nat.two_pow_pos _
theorem half_lt {n : Nat} (h : 2 ≤ n) : half n < n := by
  have := Nat.log2_self_le (n := n - 1) (by omega)
  unfold half; omega
theorem half_ge {n : Nat} (h : 2 ≤ n) : n ≤ 2 * half n := by
  have := Nat.lt_log2_self (n := n - 1)
  rw [Nat.pow_succ] at this
  unfold half; omega

def rootF : Nat → List ByteArray → ByteArray
  | 0, _ => sumS ⟨#[]⟩
  | f + 1, l => match l with
    | [] => sumS ⟨#[]⟩
    | [s] => leafS s
    | _ => nodeS (rootF f (l.take (half l.length))) (rootF f (l.drop (half l.length)))
def root (l : List ByteArray) : ByteArray := rootF l.length l
theorem rootF_split {f : Nat} {l : List ByteArray} (h : 2 ≤ l.length) : rootF (f + 1) l = nodeS (rootF f (l.take (half l.length))) (rootF f (l.drop (half l.length))) := by
  match l, h with
  | a :: b :: r, _ => rfl
theorem rootF_fuel : ∀ (f g : Nat) (l : List ByteArray), l.length ≤ f → l.length ≤ g → rootF f l = rootF g l := by
  intro f
  induction f with
  | zero =>
    intro g l h1 h2
    obtain rfl : l = [] := List.eq_nil_of_length_eq_zero (by omega)
    cases g <;> rfl
  | succ f ih =>
    intro g l h1 h2
    by_cases h : 2 ≤ l.length
    · obtain ⟨g, rfl⟩ : ∃ k, g = k + 1 := ⟨g - 1, by omega⟩
      have hl := half_lt h
      have hp := half_pos l.length
      rw [rootF_split h, rootF_split h, ih g (l.take (half l.length)) (by simp; omega) (by simp; omega), ih g (l.drop (half l.length)) (by simp; omega) (by simp; omega)]
    · match l, h with
      | [], _ => cases g <;> rfl
      | [s], _ =>
        obtain ⟨g, rfl⟩ : ∃ k, g = k + 1 := ⟨g - 1, by simp at h2; omega⟩
        rfl
      | a :: b :: r, h => simp at h
theorem root_nil : root [] = sumS ⟨#[]⟩ := rfl
theorem root_one (s : ByteArray) : root [s] = leafS s := rfl
theorem root_split {l : List ByteArray} (h : 2 ≤ l.length) : root l = nodeS (root (l.take (half l.length))) (root (l.drop (half l.length))) := by
  have hl := half_lt h
  have hp := half_pos l.length
  obtain ⟨f, hf⟩ : ∃ f, l.length = f + 1 := ⟨l.length - 1, by omega⟩
  unfold root
  conv => lhs; rw [hf, rootF_split h]
  rw [rootF_fuel f (l.take (half l.length)).length _ (by simp; omega) (Nat.le_refl _), rootF_fuel f (l.drop (half l.length)).length _ (by simp; omega) (Nat.le_refl _)]
theorem root_size (l : List ByteArray) : (root l).size = 32 := by
  match l with
  | [] => exact sumS_size _
  | [s] => exact leafS_size s
  | a :: b :: r => rw [root_split (by simp)]; exact nodeS_size _ _

/-- The proof of entry i (inside). -/
def proofF : Nat → List ByteArray → Nat → List ByteArray
  | 0, _, _ => []
  | f + 1, l, i => if l.length ≤ 1 then [] else
      if i < half l.length then proofF f (l.take (half l.length)) i ++ [root (l.drop (half l.length))] else proofF f (l.drop (half l.length)) (i - half l.length) ++ [root (l.take (half l.length))]
def proof (l : List ByteArray) (i : Nat) : List ByteArray := proofF l.length l i
theorem proofF_fuel : ∀ (f g : Nat) (l : List ByteArray) (i : Nat), l.length ≤ f → l.length ≤ g → proofF f l i = proofF g l i := by
  intro f
  induction f with
  | zero =>
    intro g l i h1 h2
    cases g with
    | zero => rfl
    | succ g => rw [proofF, proofF, if_pos (by omega)]
  | succ f ih =>
    intro g l i h1 h2
    by_cases h : l.length ≤ 1
    · cases g with
      | zero => rw [proofF, proofF, if_pos h]
      | succ g => rw [proofF, proofF, if_pos h, if_pos h]
    · obtain ⟨g, rfl⟩ : ∃ k, g = k + 1 := ⟨g - 1, by omega⟩
      have hl := half_lt (n := l.length) (by omega)
      have hp := half_pos l.length
      rw [proofF, proofF, if_neg h, if_neg h, ih g _ _ (by simp; omega) (by simp; omega), ih g _ _ (by simp; omega) (by simp; omega)]
theorem proof_one {l : List ByteArray} (h : l.length ≤ 1) (i : Nat) : proof l i = [] := by
  unfold proof
  cases hl : l.length with
  | zero => rfl
  | succ n => rw [proofF, if_pos h]
theorem proof_split {l : List ByteArray} (h : 2 ≤ l.length) (i : Nat) : proof l i =
    if i < half l.length then proof (l.take (half l.length)) i ++ [root (l.drop (half l.length))] else proof (l.drop (half l.length)) (i - half l.length) ++ [root (l.take (half l.length))] := by
  have hl := half_lt h
  have hp := half_pos l.length
  obtain ⟨f, hf⟩ : ∃ f, l.length = f + 1 := ⟨l.length - 1, by omega⟩
  unfold proof
  conv => lhs; rw [hf, proofF, if_neg (by omega)]
  rw [proofF_fuel f (l.take (half l.length)).length _ _ (by simp; omega) (Nat.le_refl _), proofF_fuel f (l.drop (half l.length)).length _ _ (by simp; omega) (Nat.le_refl _)]

/-- The value of n, i and a proof. -/
def valueF : Nat → Nat → Nat → ByteArray → List ByteArray → ByteArray × Bool
  | 0, _, _, s, p => (leafS s, p.isEmpty)
  | f + 1, n, i, s, p => if n ≤ 1 then (leafS s, p.isEmpty) else
      if p.isEmpty then (⟨#[]⟩, false) else
        if i < half n then (nodeS (valueF f (half n) i s p.dropLast).1 (p.getLastD ⟨#[]⟩), (valueF f (half n) i s p.dropLast).2)
        else (nodeS (p.getLastD ⟨#[]⟩) (valueF f (n - half n) (i - half n) s p.dropLast).1, (valueF f (n - half n) (i - half n) s p.dropLast).2)
end Go.Proofs.YtjcamhekhfokhaaDoor
