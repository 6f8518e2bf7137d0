/- What is true of Made's bounds; of the greatest allowed situation. -/
import Derived.Test.YtkeimfkaoianmaaMa2
import Derived.Test.YtkeimfkaoianmaaClo
namespace Go.Proofs.Ytkeimfkaoianmaa
open Go.RowKit

theorem made_okb (N : Int) (H : List Int) (BL : List Bn) (M : Int) : Okb ((hidN N : Nat) : Int) (madeL N H BL M) := fun c hc => by
  have := madeL_mem N H BL M c hc
  omega
theorem made_valid (N : Int) (H : List Int) (BL : List Bn) (M : Int) : validB ((hidN N : Nat) : Int) (madeL N H BL M) = true := by
  have h1 := hidN_bd N
  have h2 := madeL_len N H BL M
  exact validB_iff.2 ⟨by omega, by omega, made_okb N H BL M⟩
/-- A situation, as a potential. -/
def hx (h : List Int) (v : Int) : Int := h.getD v.toNat 0
theorem made_fine {N : Int} {H : List Int} {BL : List Bn} {M : Int} (hm : missB M = false) : Fine (madeL N H BL M) :=
  Fine.of_pot (x := hx (hidL N H)) (madeL_keeps hm)
theorem made_fineB {N : Int} {H : List Int} {BL : List Bn} {M : Int} (hm : missB M = false) : fineB ((hidN N : Nat) : Int) (madeL N H BL M) = true := by
  have h1 := hidN_bd N
  rw [fineB_nat, made_valid, (badB_false (by omega) (made_okb N H BL M)).2 (made_fine hm)]
  rfl
theorem miss0 : missB 0 = false := by decide +kernel

theorem getD_map {n : Nat} (x : Int → Int) {v : Int} (h0 : 0 ≤ v) (h1 : v < n) : ((List.range n).map fun i : Nat => x i).getD v.toNat 0 = x v := by
  rw [List.getD_eq_getElem?_getD, List.getElem?_map, List.getElem?_range (by omega)]
  simp only [Option.map_some, Option.getD_some]
  rw [Int.toNat_of_nonneg h0]
theorem allowed_map {n : Nat} {bs : List Bn} (x : Int → Int) (hv : validB (n : Int) bs = true) : allowedB (n : Int) bs ((List.range n).map fun i : Nat => x i) = true ↔ (∀ i : Nat, i < n → -1000000000000 ≤ x i ∧ x i ≤ 1000000000000) ∧ ∀ c ∈ bs, x c.2.1 - x c.1 ≤ c.2.2 := by
  obtain ⟨_, _, ho⟩ := validB_iff.1 hv
  unfold allowedB keepsB
  simp only [hv, Bool.true_and, List.length_map, List.length_range, decide_true, Bool.and_eq_true, List.all_eq_true, List.mem_map, List.mem_range, decide_eq_true_eq]
  constructor
  · rintro ⟨h1, h2⟩
    refine ⟨fun i hi => ?_, fun c hc => ?_⟩
    · have := h1 _ ⟨i, hi, rfl⟩
      exact inB_iff.1 this
    · have := h2 c hc
      obtain ⟨a, b, _⟩ := ho c hc
      rwa [getD_map x b.1 b.2, getD_map x a.1 a.2] at this
  · rintro ⟨h1, h2⟩
    refine ⟨?_, fun c hc => ?_⟩
    · rintro z ⟨i, hi, rfl⟩
      exact inB_iff.2 (h1 i hi)
    · obtain ⟨a, b, _⟩ := ho c hc
      rw [getD_map x b.1 b.2, getD_map x a.1 a.2]
      exact h2 c hc
section sol
variable {bs : List Bn} {n : Nat} (ho : Okb n bs) (hn : n ≤ 16) (hf : Fine bs)
include ho hn hf
theorem sol_keeps : ∀ c ∈ bs, sol n bs c.2.1 - sol n bs c.1 ≤ c.2.2 := by
  intro c hc
  obtain ⟨⟨a0, a1⟩, _, _⟩ := ho c hc
  obtain ⟨f, e⟩ := Int.eq_ofNat_of_zero_le a0
  rcases solP_cases bs n n c.1 with h | ⟨u, hu, h⟩
  · have h1 := solP_mem (bs := bs) (n := n) (show f < n by omega) c.2.1
    have h2 := fine_self (n := n) hf c.1
    have h3 := fine_step ho (by omega) hf (u := c.1) hc (by rw [h2]; decide)
    unfold sol
    rw [← e] at h1
    omega
  · have h1 := solP_mem (bs := bs) (n := n) hu c.2.1
    have h2 := solP_le bs n n c.1
    have h3 := fine_step ho (by omega) hf (u := (u : Int)) hc (by rw [← h]; unfold farI; omega)
    unfold sol
    omega
omit hf in
theorem sol_low (v : Int) : -16000000000 ≤ sol n bs v := by
  unfold sol
  rcases solP_cases bs n n v with h | ⟨u, hu, h⟩
  · omega
  · have h2 := solP_le bs n n v
    have h3 := tb_bd ho (k := n) (u := (u : Int)) (v := v) (by rw [← h]; unfold farI; omega)
    omega
omit ho hn hf in
theorem sol_le (v : Int) : sol n bs v ≤ 0 := solP_le bs n n v
omit ho hn hf in
theorem sol_most {x : Int → Int} {top : Int} (hx : ∀ c ∈ bs, x c.2.1 - x c.1 ≤ c.2.2) (ht : ∀ u : Nat, u < n → x u ≤ top) {v : Nat} (hv : v < n) : x v - top ≤ sol n bs v := by
  unfold sol
  rcases solP_cases bs n n v with h | ⟨u, hu, h⟩
  · have := ht v hv; omega
  · have h2 := solP_le bs n n v
    have h3 := pot_tb hx (k := n) (u := (u : Int)) (v := v) (by rw [← h]; unfold farI; omega)
    have := ht u hu
    omega
theorem sol_zero (h0 : 0 < n) : ∃ v : Nat, v < n ∧ sol n bs v = 0 := by
  have hk := sol_keeps ho hn hf
  rcases solP_cases bs n n (0 : Nat) with h | ⟨u, hu, h⟩
  · exact ⟨0, h0, h⟩
  · by_cases hz : sol n bs (0 : Nat) = 0
    · exact ⟨0, h0, hz⟩
    · have h2 := solP_le bs n n (0 : Nat)
      have h3 := pot_tb hk (k := n) (u := (u : Int)) (v := ((0 : Nat) : Int)) (by rw [← h]; unfold farI; omega)
      have h4 := sol_le (bs := bs) (n := n) (u : Int)
      refine ⟨u, hu, ?_⟩
      unfold sol at *
      omega
theorem sol_allowed : allowedB (n : Int) bs ((List.range n).map fun i : Nat => sol n bs i) = true ∨ bs.length > 60 := by
  by_cases h60 : bs.length ≤ 60
  · refine .inl ((allowed_map (sol n bs) (validB_iff.2 ⟨by omega, h60, ho⟩)).2 ⟨fun i _ => ?_, sol_keeps ho hn hf⟩)
    have h1 := sol_low ho hn (i : Int)
    have h2 := sol_le (bs := bs) (n := n) (i : Int)
    omega
  · exact .inr (by omega)
end sol
end Go.Proofs.Ytkeimfkaoianmaa
