/- BetweenImplies: what its calls answer. -/
import Derived.Test.YtkeimfkaoianmaaMo
import Derived.Test.YtkeimfkaoianmaaSh
import Derived.Test.YtkeimfkaoianmaaCm
namespace Go.Proofs.Ytkeimfkaoianmaa
open Go.RowKit

theorem allowed_hid {n : Nat} {bs : List Bn} {hh : List Int} (hv : validB (n : Int) bs = true) (hl : hh.length = n) (hb : ∀ x ∈ hh, -100 ≤ x ∧ x ≤ 99) (hk : ∀ c ∈ bs, hx hh c.2.1 - hx hh c.1 ≤ c.2.2) : allowedB (n : Int) bs hh = true := by
  unfold allowedB keepsB
  rw [hv, hl]
  simp only [Bool.true_and, Bool.and_eq_true, decide_eq_true_eq, List.all_eq_true, true_and]
  refine ⟨fun x hx => ?_, fun c hc => hk c hc⟩
  have := hb x hx
  exact inB_iff.2 ⟨by omega, by omega⟩

theorem implies_facts {bs : List Bn} {n : Nat} {hh : List Int} (hbs : Okb (n : Int) bs) (hfi : fineB (n : Int) bs = true) (hfn : Fine bs) (hva : validB (n : Int) bs = true) (hkeep : ∀ c ∈ bs, hx hh c.2.1 - hx hh c.1 ≤ c.2.2) (h268 : ∀ c ∈ bs, -268 ≤ c.2.2 ∧ c.2.2 ≤ 268)
    (hlen : hh.length = n) (hbd : ∀ x ∈ hh, -100 ≤ x ∧ x ≤ 99) (hn : 1 ≤ n ∧ n ≤ 8) (hK : bs.length ≤ 16) {f t : Nat} (f2 : f < n) (t2 : t < n) {hf ht m : Int} (hhf : hh[f]? = some hf) (hht : hh[t]? = some ht) (mb : -219 ≤ m ∧ m ≤ 238)
    (l : List Int) (LA : Option Addr) (lc : Nat) (hl : l.length ≤ lc ∧ lc ≤ 9223372036854775807) :
    ∃ (s_f s_t : Int) (C1 : Bool) (ML : Nat) (S0 : List Int),
      (∀ A c W, Rds W W.heap.size A bs → Calls Try.prog 33 #[btw n A bs.length c, bnd ((f : Int), (t : Int), m)] W fun e w' => ShPost W bs n (f : Int) (t : Int) m e w') ∧
      (∀ A c W, Rds W W.heap.size A bs → Calls Try.prog 18 #[btw n A bs.length c] W fun e w' => ∃ s, e = .returned (.tuple #[.slice (some ⟨s, 0, none⟩) n n, .int .i64 0]) ∧ Nums w' w'.heap.size (some ⟨s, 0, none⟩) S0 ∧ Below W.heap.size W w') ∧
      (∀ A c XA xc W, Rds W W.heap.size A bs → Nums W W.heap.size XA hh → Calls Try.prog 27 #[btw n A bs.length c, .slice XA n xc] W fun e w' => e = .returned (.bool true) ∧ Below W.heap.size W w') ∧
      (∀ W, Calls Try.prog 11 #[.slice LA l.length lc] W fun e w' => e = .returned (.slice LA ML lc) ∧ Below W.heap.size W w') ∧
      (∀ A c W, Rds W W.heap.size A bs → Nums W W.heap.size LA (l.take 20) → Calls Try.prog 31 #[btw n A bs.length c, bnd ((f : Int), (t : Int), m), .slice LA ML lc] W fun e w' => e = .returned (.bool C1) ∧ Below W.heap.size W w') ∧
      (∀ ch, shO bs n (f : Int) (t : Int) m = some ch → (ht - hf ≤ m ∧ s_t - s_f ≤ m) ∧ (∀ W e w', ShPost W bs n (f : Int) (t : Int) m e w' → ∃ g cap : Nat, e = .returned (.tuple #[.slice (some ⟨g, 0, none⟩) ch.length cap, .bool true]) ∧ Nums w' w'.heap.size (some ⟨g, 0, none⟩) (ints ch) ∧ Below W.heap.size W w') ∧
        (∀ A c CA cc W, Rds W W.heap.size A bs → Nums W W.heap.size CA (ints ch) → Calls Try.prog 31 #[btw n A bs.length c, bnd ((f : Int), (t : Int), m), .slice CA ch.length cc] W fun e w' => e = .returned (.bool true) ∧ Below W.heap.size W w')) ∧
      (shO bs n (f : Int) (t : Int) m = none → ∃ σf σt : Int, ∃ b2 : List Bn, (-16000000000 ≤ σf ∧ σf ≤ 0) ∧ (-16000000000 ≤ σt ∧ σt ≤ 0) ∧ m < σt - σf ∧ C1 = false ∧ ∃ T2 : List Int, T2[f]? = some σf ∧ T2[t]? = some σt ∧
        (∀ A c W, Rds W W.heap.size A b2 → Calls Try.prog 18 #[btw n A (bs.length + 1) c] W fun e w' => ∃ s, e = .returned (.tuple #[.slice (some ⟨s, 0, none⟩) n n, .int .i64 0]) ∧ Nums w' w'.heap.size (some ⟨s, 0, none⟩) T2 ∧ Below W.heap.size W w') ∧
        (∀ A c XA xc W, Rds W W.heap.size A bs → Nums W W.heap.size XA T2 → Calls Try.prog 27 #[btw n A bs.length c, .slice XA n xc] W fun e w' => e = .returned (.bool true) ∧ Below W.heap.size W w') ∧
        (∀ A c W, Rds W W.heap.size A bs → Calls Try.prog 36 #[btw n A bs.length c, bnd ((t : Int), (f : Int), -m - 1)] W fun e w' => ∃ (A' : Option Addr) (c' : Nat), e = .returned (btw n A' (bs.length + 1) c') ∧ Rds w' w'.heap.size A' b2 ∧ Below W.heap.size W w')) ∧
      S0[f]? = some s_f ∧ S0[t]? = some s_t ∧ (-16000000000 ≤ s_f ∧ s_f ≤ 0) ∧ (-16000000000 ≤ s_t ∧ s_t ≤ 0) := by
  obtain ⟨n1, n8⟩ := hn
  have ef : hx hh (f : Int) = hf := by unfold hx; rw [List.getD_eq_getElem?_getD, Int.toNat_natCast, hhf]; rfl
  have et : hx hh (t : Int) = ht := by unfold hx; rw [List.getD_eq_getElem?_getD, Int.toNat_natCast, hht]; rfl
  have hbx : bndB (n : Int) ((f : Int), (t : Int), m) = true := by
    unfold bndB
    rw [varB_iff.2 ⟨by dsimp only; omega, by dsimp only; omega⟩, varB_iff.2 ⟨by dsimp only; omega, by dsimp only; omega⟩, inB_iff.2 ⟨by dsimp only; omega, by dsimp only; omega⟩]
    rfl
  have hsi := shO_is (f := (f : Int)) (t := (t : Int)) (m := m) hbs (show n ≤ 16 by omega)
  have hsk := sol_keeps hbs (show n ≤ 16 by omega) hfn
  have slo := sol_low hbs (show n ≤ 16 by omega)
  have sle := sol_le (bs := bs) (n := n)
  have hML2 : min l.length 20 = (l.take 20).length := by rw [List.length_take]; omega
  refine ⟨sol n bs (f : Int), sol n bs (t : Int), checkChainB (n : Int) bs ((f : Int), (t : Int), m) (l.take 20), (l.take 20).length, (List.range n).map fun i : Nat => sol n bs i, fun A c W r => implied_yes n bs A c f t m hfi hbx (by omega) W r, ?_, ?_, ?_, ?_, ?_, ?_, by rw [List.getElem?_map, List.getElem?_range f2]; rfl, by rw [List.getElem?_map, List.getElem?_range t2]; rfl, ⟨slo _, sle _⟩, ⟨slo _, sle _⟩⟩
  · intro A c W r
    exact (solve_yes n bs A c hfi (by omega) W r).mono fun e w' ⟨s, h1, h2, h3⟩ => ⟨s, h1, row_nums h2, h3⟩
  · intro A c XA xc W r q
    have := allowed_any n bs A c _ XA xc (by omega) (by omega) W r q
    rw [allowed_hid hva hlen hbd hkeep, hlen] at this
    exact this
  · intro W
    exact short_any LA l.length lc _ hML2.symm hl.1 hl.2 W
  · intro A c W r q
    exact checkChain_any n bs A c ((f : Int), (t : Int), m) (l.take 20) LA lc (by omega) (by rw [List.length_take]; omega) W r q
  · intro ch hch
    have hsi2 := hsi
    rw [hch] at hsi2
    have ht' : tb bs n (f : Int) (t : Int) ≤ m := of_decide_eq_true hsi2.symm
    have nf : tb bs n (f : Int) (t : Int) ≠ farI := by unfold farI; omega
    have e1 := pot_tb (x := hx hh) hkeep nf
    have e2 := pot_tb (x := sol n bs) hsk nf
    rw [ef, et] at e1
    refine ⟨⟨by omega, by omega⟩, fun W e w' h => ShPost.some hch hbs (by omega) ⟨by omega, by omega⟩ h, fun A c CA cc W r q => ?_⟩
    have hcl : ch.length ≤ 16 := by
      obtain ⟨k, hk, hF, rfl⟩ := shO_some.1 hch
      have := (folL_way hbs (by omega) hF (by unfold Sm; omega)).1
      omega
    have := checkChain_any n bs A c ((f : Int), (t : Int), m) (ints ch) CA cc (by omega) (by rw [ints_len]; omega) W r q
    rw [check_own hbs (by omega) hch ⟨by omega, by omega⟩ hva hbx, ints_len] at this
    exact this
  · intro hch
    have hsi2 := hsi
    rw [hch] at hsi2
    have ht' : ¬ tb bs n (f : Int) (t : Int) ≤ m := of_decide_eq_false hsi2.symm
    obtain ⟨b2, hb2⟩ : ∃ b2, b2 = bs ++ [((t : Int), (f : Int), -m - 1)] := ⟨_, rfl⟩
    have hf2 : Fine b2 := by rw [hb2]; exact rev_fine hbs (show n ≤ 16 by omega) hfn h268 (show m ≤ 900000000 by omega) (show m < tb bs n (f : Int) (t : Int) by omega)
    have ho2 : Okb ((n : Nat) : Int) b2 := fun c hc => by
      rw [hb2] at hc
      rcases List.mem_append.1 hc with q | q
      · exact hbs c q
      · have e : c = ((t : Int), (f : Int), -m - 1) := by simpa using q
        subst e
        exact ⟨by dsimp only; omega, by dsimp only; omega, by dsimp only; omega⟩
    have hk2 := sol_keeps ho2 (show n ≤ 16 by omega) hf2
    have lo2 := sol_low ho2 (show n ≤ 16 by omega)
    have le2 := sol_le (bs := b2) (n := n)
    have hb2n : b2.length = bs.length + 1 := by rw [hb2]; simp
    have hfi2 : fineB (n : Int) b2 = true := by
      rw [fineB_nat, (badB_false (by omega) ho2).2 hf2, validB_iff.2 ⟨by omega, by omega, ho2⟩]
      rfl
    have hal2 : allowedB (n : Int) bs ((List.range n).map fun i : Nat => sol n b2 i) = true := (allowed_map (sol n b2) hva).2 ⟨fun i _ => by have := lo2 (i : Int); have := le2 (i : Int); omega, fun c hc => hk2 c (by rw [hb2]; exact List.mem_append_left _ hc)⟩
    have hgt := hk2 ((t : Int), (f : Int), -m - 1) (by rw [hb2]; simp)
    dsimp only at hgt
    refine ⟨sol n b2 (f : Int), sol n b2 (t : Int), b2, ⟨lo2 _, le2 _⟩, ⟨lo2 _, le2 _⟩, by omega, ?_, (List.range n).map fun i : Nat => sol n b2 i, by rw [List.getElem?_map, List.getElem?_range f2]; rfl, by rw [List.getElem?_map, List.getElem?_range t2]; rfl, fun A c W r => ?_, fun A c XA xc W r q => ?_, fun A c W r => ?_⟩
    · cases hC : checkChainB (n : Int) bs ((f : Int), (t : Int), m) (l.take 20) with
      | false => rfl
      | true => exact absurd (check_tb hbs (by omega) hfn hC) ht'
    · have := solve_yes n b2 A c hfi2 (by omega) W r
      rw [hb2n] at this
      exact this.mono fun e w' ⟨s, h1, h2, h3⟩ => ⟨s, h1, row_nums h2, h3⟩
    · have := allowed_any n bs A c _ XA xc (by omega) (by simp; omega) W r q
      rw [hal2] at this
      simp only [List.length_map, List.length_range] at this
      exact this
    · have := with_any n bs A c t f (-m - 1) (by omega) W r
      rw [← hb2] at this
      exact this
end Go.Proofs.Ytkeimfkaoianmaa
