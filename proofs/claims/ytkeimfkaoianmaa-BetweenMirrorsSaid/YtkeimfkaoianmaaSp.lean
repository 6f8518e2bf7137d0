/- The first chain of the fewest bounds that shows a bound: plain facts. -/
import Derived.Test.YtkeimfkaoianmaaBw
namespace Go.Proofs.Ytkeimfkaoianmaa

/-- No chain of fewer than k bounds shows (f, t, m), one of k does. -/
def Fst (bs : List Bn) (k : Nat) (f t m : Int) : Prop := tb bs k f t ≤ m ∧ ∀ j, j < k → m < tb bs j f t
def okN (bs : List Bn) (k : Nat) (f t m : Int) (c : Bn) : Bool := decide (c.1 = f) && decide (c.2.2 + tb bs k c.2.1 t ≤ m)
def folL (bs : List Bn) : Nat → Int → Int → Int → List Nat
  | 0, _, _, _ => []
  | k + 1, f, t, m => match bs.findIdx? (okN bs k f t m) with
    | some i => i :: folL bs k ((bs[i]?).getD (0, 0, 0)).2.1 t (m - ((bs[i]?).getD (0, 0, 0)).2.2)
    | none => []
def Sm (k : Nat) (m : Int) : Prop := -1000000000000 ≤ m - 1000000000 * (k : Int) ∧ m + 1000000000 * (k : Int) ≤ 1000000000000

theorem Fst.next {bs : List Bn} {n : Int} (ho : Okb n bs) {k : Nat} {f t m : Int} (h : Fst bs (k + 1) f t m) (hk : k ≤ 100) (hm : Sm (k + 1) m) :
    ∃ i c, bs.findIdx? (okN bs k f t m) = some i ∧ bs[i]? = some c ∧ c.1 = f ∧ c.2.2 + tb bs k c.2.1 t ≤ m ∧ Fst bs k c.2.1 t (m - c.2.2) ∧ Sm k (m - c.2.2) := by
  obtain ⟨h1, h2⟩ := h
  unfold Sm at hm
  have hne : tb bs (k + 1) f t ≠ farI := by unfold farI; omega
  obtain ⟨l, hl, hw⟩ := tb_way (k + 1) hne
  have hlen : l.length = k + 1 := by
    rcases Nat.lt_or_ge l.length (k + 1) with h | h
    · have := way_tb ho l.length (by omega) (Nat.le_refl _) hw
      have := h2 _ h
      omega
    · omega
  cases l with
  | nil => simp at hlen
  | cons i0 l =>
    generalize tb bs (k + 1) f t = T at *
    cases hw with
    | @cons _ _ c0 _ _ s hi hu hw =>
      have hs := way_tb ho k (by omega) (by simp at hlen; omega) hw
      have ex : okN bs k f t m c0 = true := by
        unfold okN
        rw [decide_eq_true hu, decide_eq_true (by omega)]; rfl
      cases hf : bs.findIdx? (okN bs k f t m) with
      | none =>
        have := List.findIdx?_eq_none_iff.1 hf c0 (List.mem_of_getElem? hi)
        rw [ex] at this; cases this
      | some i =>
        obtain ⟨hlt, hp, _⟩ := List.findIdx?_eq_some_iff_getElem.1 hf
        have hc : bs[i]? = some bs[i] := by simp [hlt]
        unfold okN at hp
        simp only [Bool.and_eq_true, decide_eq_true_eq] at hp
        have hb := ho.at hc
        refine ⟨i, bs[i], rfl, hc, hp.1, hp.2, ⟨by omega, fun j hj => ?_⟩, ?_⟩
        · rcases Int.lt_or_le (m - (bs[i]).2.2) (tb bs j (bs[i]).2.1 t) with h | h
          · exact h
          · have hn : tb bs j (bs[i]).2.1 t ≠ farI := by unfold farI; omega
            obtain ⟨l', hl', hw'⟩ := tb_way j hn
            have := way_tb ho (j + 1) (by omega) (by simp; omega) (Way.cons hc hp.1 hw')
            have := h2 (j + 1) (by omega)
            omega
        · unfold Sm; omega
theorem folL_succ {bs : List Bn} {k i : Nat} {f t m : Int} {c : Bn} (h : bs.findIdx? (okN bs k f t m) = some i) (hc : bs[i]? = some c) : folL bs (k + 1) f t m = i :: folL bs k c.2.1 t (m - c.2.2) := by
  rw [folL, h]; dsimp only; rw [hc]; rfl
/-- What folL gives shows the bound, and it has k bounds. -/
theorem folL_way {bs : List Bn} {n : Int} (ho : Okb n bs) : ∀ {k : Nat} {f t m : Int}, k ≤ 100 → Fst bs k f t m → Sm k m → (folL bs k f t m).length = k ∧ ∃ s, Way bs f (folL bs k f t m) t s ∧ s ≤ m
  | 0, f, t, m, _, h, hm => by
    have h0 := h.1
    unfold tb z0 at h0
    unfold Sm at hm
    by_cases e : f = t
    · subst e
      rw [if_pos rfl] at h0
      exact ⟨rfl, 0, .nil _, h0⟩
    · rw [if_neg e] at h0; unfold farI at h0; omega
  | k + 1, f, t, m, hk, h, hm => by
    obtain ⟨i, c, hi, hc, hf, _, h1, h2⟩ := h.next ho (by omega) hm
    obtain ⟨l1, s, hw, hs⟩ := folL_way ho (by omega) h1 h2
    rw [folL_succ hi hc]
    exact ⟨by simp [l1], _, .cons hc hf hw, by omega⟩
end Go.Proofs.Ytkeimfkaoianmaa
