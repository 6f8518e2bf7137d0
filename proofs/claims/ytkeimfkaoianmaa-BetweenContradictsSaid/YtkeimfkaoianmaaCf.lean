/- BetweenContradicts: what its calls answer. -/
import Derived.Test.YtkeimfkaoianmaaTw
import Derived.Test.YtkeimfkaoianmaaSh
namespace Go.Proofs.Ytkeimfkaoianmaa
open Go.RowKit

theorem Okb.sub {n : Int} {bs cs : List Bn} (h : Okb n bs) (hs : ∀ c ∈ cs, c ∈ bs) : Okb n cs := fun c hc => h c (hs c hc)
theorem short_take (LA : Option Addr) (l : List Int) (lc : Nat) (hl : l.length ≤ lc ∧ lc ≤ 9223372036854775807) (W : World) :
    Calls Try.prog 11 #[.slice LA l.length lc] W fun e w' => e = .returned (.slice LA (l.take 20).length lc) ∧ Below W.heap.size W w' :=
  short_any LA l.length lc _ (by rw [List.length_take]; omega) hl.1 hl.2 W
theorem take_le (l : List Int) : (l.take 20).length ≤ 20 := by rw [List.length_take]; omega
section
variable {bs : List Bn} {n : Nat} (hbs : Okb (n : Int) bs) (hva : validB (n : Int) bs = true) (hn : 1 ≤ n ∧ n ≤ 8) (hK : bs.length ≤ 16)
include hbs hva hn hK
theorem contra_some {c : List Nat} (hc : cyO bs n = some c) :
    (∀ A cp W, Rds W W.heap.size A bs → Calls Try.prog 20 #[btw n A bs.length cp] W fun e w' => ∃ g cc : Nat, e = .returned (.tuple #[.slice (some ⟨g, 0, none⟩) c.length cc, .bool true]) ∧ Nums w' w'.heap.size (some ⟨g, 0, none⟩) (ints c) ∧ Below W.heap.size W w') ∧
    (∀ A cp W, Rds W W.heap.size A bs → Calls Try.prog 18 #[btw n A bs.length cp] W fun e w' => e = .returned (.tuple #[.slice none 0 0, .int .i64 60]) ∧ Below W.heap.size W w') ∧
    (∀ A cp CA cc W, Rds W W.heap.size A bs → Nums W W.heap.size CA (ints c) → Calls Try.prog 29 #[btw n A bs.length cp, .slice CA c.length cc] W fun e w' => e = .returned (.bool true) ∧ Below W.heap.size W w') ∧
    (∀ A cp (x : List Int) XA xc W, x.length ≤ 100 → Rds W W.heap.size A bs → Nums W W.heap.size XA x → Calls Try.prog 27 #[btw n A bs.length cp, .slice XA x.length xc] W fun e w' => e = .returned (.bool false) ∧ Below W.heap.size W w') ∧
    (1 ≤ c.length ∧ c.length ≤ 8) ∧ (∀ i ∈ c, i < bs.length) ∧
    (∀ m : List Nat, (∀ x ∈ m, x ∈ c) → m.length + 1 = c.length → ∀ A cp W, Rds W W.heap.size A (selB bs m) → ∀ L, L = (selB bs m).length → Calls Try.prog 18 #[btw n A L cp] W fun e w' => ∃ v, e = .returned (.tuple #[v, .int .i64 0]) ∧ Below W.heap.size W w') ∧
    (∀ A cp W, Rds W W.heap.size A (selB bs c) → ∀ L, L = (selB bs c).length → Calls Try.prog 18 #[btw n A L cp] W fun e w' => e = .returned (.tuple #[.slice none 0 0, .int .i64 60]) ∧ Below W.heap.size W w') := by
  obtain ⟨⟨u, s, hu, hw, hs⟩, hlen, hmin⟩ := cyO_bad hbs (show n ≤ 16 by omega) hc
  have hne : 1 ≤ c.length := by
    have := len_pos (Bad.ne ⟨(u : Int), s, hw, by omega⟩)
    omega
  have hnf : fineB (n : Int) bs = false := by
    rw [fineB_nat, (badB_iff (by omega) hbs).2 ⟨c, u, s, hw, by omega⟩]
    simp
  have hsel := selB_mem hw.mem_lt
  refine ⟨fun A cp W r => ?_, fun A cp W r => solve_no n bs A cp hnf (by omega) W r, fun A cp CA cc W r q => ?_, fun A cp x XA xc W hx r q => ?_, ⟨hne, by omega⟩, hw.mem_lt, fun m hm hl A cp W r L hL => ?_, fun A cp W r L hL => ?_⟩
  · refine (cycle_any n bs A cp (by omega) W r).mono fun e w' hp => ?_
    obtain ⟨v, he, ho, hb⟩ := hp
    rw [hva, if_pos rfl, Int.toNat_natCast, hc] at he ho
    obtain ⟨g, cap, rfl, h2, _⟩ := ho
    exact ⟨g, cap, he, h2, hb⟩
  · have := checkCycle_any n bs A cp (ints c) CA cc (by omega) (by rw [ints_len]; omega) W r q
    rw [cyO_check hbs (by omega) hc hva, ints_len] at this
    exact this
  · have := allowed_any n bs A cp x XA xc (by omega) (by omega) W r q
    have hf : allowedB (n : Int) bs x = false := by
      cases h : allowedB (n : Int) bs x with
      | false => rfl
      | true => exact absurd ⟨(u : Int), s, hw, by omega⟩ (allowed_fine h c)
    rw [hf] at this
    exact this
  · subst hL
    have hm2 := selB_mem (bs := bs) fun i hi => hw.mem_lt i (hm i hi)
    have ho := hbs.sub hm2
    have hf : fineB (n : Int) (selB bs m) = true := by
      rw [fineB_nat, (badB_false (by omega) ho).2 (sel_fine hw.mem_lt hmin hm (by omega)), validB_iff.2 ⟨by omega, by rw [selB_len]; omega, ho⟩]
      rfl
    exact (solve_yes n _ A cp hf (by rw [selB_len]; omega) W r).mono fun e w' ⟨s, h1, _, h3⟩ => ⟨_, h1, h3⟩
  · subst hL
    have hf : fineB (n : Int) (selB bs c) = false := by
      rw [fineB_nat, sel_bad hbs (by omega) hw (by omega)]
      simp
    exact solve_no n _ A cp hf (by rw [selB_len]; omega) W r
theorem contra_none (hc : cyO bs n = none) : ∃ S0 : List Int,
    (∀ A cp W, Rds W W.heap.size A bs → Calls Try.prog 20 #[btw n A bs.length cp] W fun e w' => e = .returned (.tuple #[.slice none 0 0, .bool false]) ∧ Below W.heap.size W w') ∧
    (∀ A cp W, Rds W W.heap.size A bs → Calls Try.prog 18 #[btw n A bs.length cp] W fun e w' => ∃ s, e = .returned (.tuple #[.slice (some ⟨s, 0, none⟩) n n, .int .i64 0]) ∧ Nums w' w'.heap.size (some ⟨s, 0, none⟩) S0 ∧ Below W.heap.size W w') ∧
    (∀ A cp XA xc W, Rds W W.heap.size A bs → Nums W W.heap.size XA S0 → Calls Try.prog 27 #[btw n A bs.length cp, .slice XA n xc] W fun e w' => e = .returned (.bool true) ∧ Below W.heap.size W w') ∧
    (∀ A cp (l : List Int) LA lc W, l.length ≤ 100 → Rds W W.heap.size A bs → Nums W W.heap.size LA l → Calls Try.prog 29 #[btw n A bs.length cp, .slice LA l.length lc] W fun e w' => e = .returned (.bool false) ∧ Below W.heap.size W w') := by
  have hfn := cyO_fine hbs (show n ≤ 16 by omega) hc
  have hfi : fineB (n : Int) bs = true := by
    rw [fineB_nat, (badB_false (by omega) hbs).2 hfn, hva]
    rfl
  refine ⟨(List.range n).map fun i : Nat => sol n bs i, fun A cp W r => ?_, fun A cp W r => ?_, fun A cp XA xc W r q => ?_, fun A cp l LA lc W hl r q => ?_⟩
  · refine (cycle_any n bs A cp (by omega) W r).mono fun e w' hp => ?_
    obtain ⟨v, he, ho, hb⟩ := hp
    rw [hva, if_pos rfl, Int.toNat_natCast, hc] at he ho
    cases ho
    exact ⟨he, hb⟩
  · exact (solve_yes n bs A cp hfi (by omega) W r).mono fun e w' ⟨s, h1, h2, h3⟩ => ⟨s, h1, row_nums h2, h3⟩
  · have := allowed_any n bs A cp _ XA xc (by omega) (by simp; omega) W r q
    rcases sol_allowed hbs (by omega) hfn with h | h
    · rw [h] at this
      simp only [List.length_map, List.length_range] at this
      exact this
    · omega
  · have := checkCycle_any n bs A cp l LA lc (by omega) (by omega) W r q
    have hf : checkCycleB (n : Int) bs l = false := by
      cases h : checkCycleB (n : Int) bs l with
      | false => rfl
      | true => obtain ⟨l', hl'⟩ := checkCycle_bad h; exact absurd hl' (hfn l')
    rw [hf] at this
    exact this
end
theorem Nst.bel_grown {W3 X w1 : World} {G cF cV : Nat} {d : Int} {AF AV : Option Addr} {F V : List Bn} (h : Nst W3 X G d AF cF F AV cV V) {n : Nat} (hg : X.grownBy w1 (Value.slice AF n cF).ownBlock ∨ X.grownBy w1 (Value.slice AV n cV).ownBlock) : Below G W3 w1 := by
  have hs := h.size
  rcases hg with hg | hg <;> rw [ob_own] at hg
  · exact h.bel.grown hg (by omega) (fun k hk => by have := (h.ltF hk).1; omega)
  · exact h.bel.grown hg (by omega) (fun k hk => by have := (h.ltV hk).1; omega)
end Go.Proofs.Ytkeimfkaoianmaa
