/- What BetweenLeast says of distances, plainly. -/
import Derived.Test.YtkeimfkaoianmaaMs
namespace Go.Proofs.Ytkeimfkaoianmaa
open Go.RowKit

section least
variable {bs : List Bn} {n : Nat}
theorem Way.bd268 (hb : ∀ c ∈ bs, -268 ≤ c.2.2 ∧ c.2.2 ≤ 268) {u v s : Int} {l : List Nat} (h : Way bs u l v s) : -(268 * (l.length : Int)) ≤ s ∧ s ≤ 268 * (l.length : Int) := by
  induction h with
  | nil u => simp
  | cons hi hu h ih =>
    have := hb _ (List.mem_of_getElem? hi)
    rw [List.length_cons]
    omega
theorem tb_268 (hb : ∀ c ∈ bs, -268 ≤ c.2.2 ∧ c.2.2 ≤ 268) {k : Nat} {u v : Int} (h : tb bs k u v ≠ farI) : -(268 * (k : Int)) ≤ tb bs k u v ∧ tb bs k u v ≤ 268 * (k : Int) := by
  obtain ⟨l, hl, hw⟩ := tb_way k h
  have := hw.bd268 hb
  omega
theorem sol_268 (hb : ∀ c ∈ bs, -268 ≤ c.2.2 ∧ c.2.2 ≤ 268) (hn : n ≤ 16) (v : Int) : -4288 ≤ sol n bs v := by
  unfold sol
  rcases solP_cases bs n n v with h | ⟨u, hu, h⟩
  · omega
  · have h2 := solP_le bs n n v
    have h3 := tb_268 hb (k := n) (u := (u : Int)) (v := v) (by rw [← h]; unfold farI; omega)
    omega
/-- Distances from k; what cannot be reached, far above all else. -/
def thr (n : Nat) (bs : List Bn) (k i : Int) : Int := if tb bs n k i = farI then 1000000000 + sol n bs i else tb bs n k i
variable (ho : Okb n bs) (hn : n ≤ 16) (hf : Fine bs) (hb : ∀ c ∈ bs, -268 ≤ c.2.2 ∧ c.2.2 ≤ 268)
include ho hn hf hb
theorem thr_keeps (k : Int) : ∀ c ∈ bs, thr n bs k c.2.1 - thr n bs k c.1 ≤ c.2.2 := by
  intro c hc
  have hm := hb c hc
  have h1 := sol_keeps ho hn hf c hc
  have h2 := sol_268 hb hn c.1
  have h3 := sol_le (bs := bs) (n := n) c.2.1
  unfold thr
  by_cases e1 : tb bs n k c.1 = farI
  · rw [if_pos e1]
    by_cases e2 : tb bs n k c.2.1 = farI
    · rw [if_pos e2]; omega
    · rw [if_neg e2]
      have := tb_268 hb e2
      omega
  · rw [if_neg e1]
    have h4 := fine_step ho (by omega) hf hc e1
    have h5 := tb_268 hb e1
    have e2 : tb bs n k c.2.1 ≠ farI := by unfold farI; omega
    rw [if_neg e2]
    omega
omit ho hf in
theorem thr_bd (k i : Int) : -1000000000000 ≤ thr n bs k i ∧ thr n bs k i ≤ 1000000000000 := by
  have h2 := sol_268 hb hn i
  have h3 := sol_le (bs := bs) (n := n) i
  unfold thr
  by_cases e1 : tb bs n k i = farI
  · rw [if_pos e1]; omega
  · rw [if_neg e1]
    have := tb_268 hb e1
    omega
omit ho hn hb in
theorem thr_self (k : Int) : thr n bs k k = 0 := by
  unfold thr
  have := fine_self (n := n) hf k
  rw [this, if_neg (by decide)]
theorem thr_allowed (hv : validB (n : Int) bs = true) (k : Int) : allowedB (n : Int) bs ((List.range n).map fun i : Nat => thr n bs k i) = true :=
  (allowed_map (thr n bs k) hv).2 ⟨fun i _ => thr_bd hn hb k i, thr_keeps ho hn hf hb k⟩
end least
theorem allowed_tb {n : Nat} {bs : List Bn} {l : List Int} (h : allowedB (n : Int) bs l = true) {i j : Nat} {a b : Int} (hi : l[i]? = some a) (hj : l[j]? = some b) : b - a ≤ tb bs n (i : Int) (j : Int) := by
  unfold allowedB keepsB at h
  simp only [Bool.and_eq_true, List.all_eq_true, decide_eq_true_eq] at h
  obtain ⟨⟨⟨_, _⟩, h3⟩, h4⟩ := h
  have hk : ∀ c ∈ bs, hx l c.2.1 - hx l c.1 ≤ c.2.2 := h4
  have ea : hx l (i : Int) = a := by unfold hx; rw [List.getD_eq_getElem?_getD, Int.toNat_natCast, hi]; rfl
  have eb : hx l (j : Int) = b := by unfold hx; rw [List.getD_eq_getElem?_getD, Int.toNat_natCast, hj]; rfl
  have ba := inB_iff.1 (h3 a (List.mem_of_getElem? hi))
  have bb := inB_iff.1 (h3 b (List.mem_of_getElem? hj))
  by_cases e : tb bs n (i : Int) (j : Int) = farI
  · rw [e]; unfold farI; omega
  · have := pot_tb hk e
    omega
end Go.Proofs.Ytkeimfkaoianmaa
