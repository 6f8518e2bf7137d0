/- RationalOrder: what its calls hand back, at three fractions and a small one. No walk. -/
import Derived.Test.YtgpncnnlhhmjaaaGreatDoorLow1
namespace Go.Proofs.YtgpncnnlhhmjaaaGreatDoor
open Go.RowKit

abbrev Cl (f : Nat) (args : Array Value) (v : Value) : Prop := ∀ W, Tab W → Calls Tryz.prog f args W fun e w' => e = .returned v ∧ Below W.heap.size W w'
def Er (E : Int) : Prop := E = 0 ∨ E = 40
/-- All that RationalOrder calls behind its first comparisons. -/
def OrdC (N1 D1 N2 D2 N4 D4 : ByteArray) (ab tc : Int) : Prop :=
  (∃ S1 S2 E1, Cl 40 #[rv N1 D1, rv N2 D2] (.tuple #[.agg #[.string S1, .string S2], .int .i64 E1]) ∧ Er E1 ∧ (E1 = 0 → Cl 20 #[rv S1 S2, rv ⟨#[48]⟩ ⟨#[49]⟩] (.int .i64 ab))) ∧
  (∃ P1 P2 E2 Q1 Q2 E3, Cl 38 #[rv N1 D1, rv N4 D4] (.tuple #[.agg #[.string P1, .string P2], .int .i64 E2]) ∧ Er E2 ∧ Cl 38 #[rv N2 D2, rv N4 D4] (.tuple #[.agg #[.string Q1, .string Q2], .int .i64 E3]) ∧ Er E3 ∧ (E2 = 0 → E3 = 0 → Cl 20 #[rv P1 P2, rv Q1 Q2] (.int .i64 ab))) ∧
  (∃ U1 U2 E4 V1 V2 E5, Cl 39 #[rv N1 D1, rv N4 D4] (.tuple #[.agg #[.string U1, .string U2], .int .i64 E4]) ∧ Er E4 ∧ Cl 39 #[rv N2 D2, rv N4 D4] (.tuple #[.agg #[.string V1, .string V2], .int .i64 E5]) ∧ Er E5 ∧ (E4 = 0 → E5 = 0 → Cl 20 #[rv U1 U2, rv V1 V2] (.int .i64 (ab * tc)))) ∧
  Cl 20 #[rv N4 D4, rv ⟨#[48]⟩ ⟨#[49]⟩] (.int .i64 tc)
theorem er_of (o : Option Rat) : Er (qtE o) := by cases o <;> simp [Er, qtE]
theorem some_of {o : Option Rat} (h : qtE o = 0) : ∃ q, o = some q := by
  cases o with
  | none => exact absurd h (by decide)
  | some q => exact ⟨q, rfl⟩
theorem add_is {a b r : Rat} (h : addO (some a) (some b) = some r) : r = a + b := by
  simp only [addO] at h
  split at h
  · exact (Option.some.inj h).symm
  · cases h
theorem sub_is {a b r : Rat} (h : subO (some a) (some b) = some r) : r = a - b := by
  simp only [subO] at h
  split at h
  · exact (Option.some.inj h).symm
  · cases h
theorem mul_is {a b r : Rat} (h : mulO (some a) (some b) = some r) : r = a * b := by
  simp only [mulO] at h
  split at h
  · exact (Option.some.inj h).symm
  · cases h
theorem div_is {a b r : Rat} (h : divO (some a) (some b) = some r) : r = a / b ∧ b ≠ 0 := by
  simp only [divO] at h
  split at h
  · rename_i h1
    refine ⟨(Option.some.inj h).symm, fun e => ?_⟩
    subst e
    simp at h1
  · cases h
theorem ord_c {a b t : Rat} (ha : okO (some a) = true) (hb : okO (some b) = true) (ht : okO (some t) = true) :
    OrdC (dec a.num) (dec (a.den : Int)) (dec b.num) (dec (b.den : Int)) (dec t.num) (dec (t.den : Int)) (cmpQ a b) (cmpQ t 0) := by
  refine ⟨⟨_, _, _, fun W h => sub_q ha hb W h, er_of _, fun h0 W h => ?_⟩, ⟨_, _, _, _, _, _, fun W h => add_q ha ht W h, er_of _, fun W h => add_q hb ht W h, er_of _, fun h0 h1 W h => ?_⟩, ⟨_, _, _, _, _, _, fun W h => mul_q ha ht W h, er_of _, fun W h => mul_q hb ht W h, er_of _, fun h0 h1 W h => ?_⟩, fun W h => ?_⟩
  · obtain ⟨r, hr⟩ := some_of h0
    have k := cmp_q (sub_ok (some a) (some b)) zero_ok W h
    rw [zero_text] at k
    have e : cmpO (subO (some a) (some b)) (some 0) = cmpQ a b := by
      rw [hr, sub_is hr]
      exact cmpQ_sub a b
    rw [e] at k
    exact k
  · obtain ⟨r, hr⟩ := some_of h0
    obtain ⟨s, hs⟩ := some_of h1
    have k := cmp_q (add_ok (some a) (some t)) (add_ok (some b) (some t)) W h
    have e : cmpO (addO (some a) (some t)) (addO (some b) (some t)) = cmpQ a b := by
      rw [hr, hs, add_is hr, add_is hs]
      exact cmpQ_add a b t
    rw [e] at k
    exact k
  · obtain ⟨r, hr⟩ := some_of h0
    obtain ⟨s, hs⟩ := some_of h1
    have k := cmp_q (mul_ok (some a) (some t)) (mul_ok (some b) (some t)) W h
    have e : cmpO (mulO (some a) (some t)) (mulO (some b) (some t)) = cmpQ a b * cmpQ t 0 := by
      rw [hr, hs, mul_is hr, mul_is hs]
      exact cmpQ_mul a b t
    rw [e] at k
    exact k
  · have k := cmp_q ht zero_ok W h
    rw [zero_text] at k
    exact k
theorem cmpQ_val (a b : Rat) : (a < b ∧ a ≠ b ∧ cmpQ a b = -1 ∧ cmpQ b a = 1) ∨ (a = b ∧ cmpQ a b = 0 ∧ cmpQ b a = 0) ∨ (b < a ∧ a ≠ b ∧ cmpQ a b = 1 ∧ cmpQ b a = -1) := by
  rcases tri a b with h | h | h
  · exact Or.inl ⟨h, Rat.ne_of_lt h, cmpQ_lt h, cmpQ_gt h⟩
  · subst h; exact Or.inr (Or.inl ⟨rfl, cmpQ_self a, cmpQ_self a⟩)
  · exact Or.inr (Or.inr ⟨h, Rat.ne_of_gt h, cmpQ_gt h, cmpQ_lt h⟩)
/-- What the first comparisons say of one another. -/
theorem ord_cmp (a b c : Rat) : (cmpQ a b = -1 ∨ cmpQ a b = 0 ∨ cmpQ a b = 1) ∧ cmpQ b a = -cmpQ a b ∧ (cmpQ a b = 0 ↔ a = b) ∧ (cmpQ a b ≤ 0 → cmpQ b c ≤ 0 → cmpQ a c ≤ 0) ∧ (cmpQ a b ≤ 0 → cmpQ b c < 0 → cmpQ a c < 0) := by
  have h1 := cmpQ_val a b
  have h2 := cmpQ_val b c
  have h3 := cmpQ_val a c
  have le1 : cmpQ a b ≤ 0 → a ≤ b := fun h => by
    rcases h1 with ⟨k, _⟩ | ⟨k, _⟩ | ⟨_, _, k, _⟩
    · exact Rat.le_of_lt k
    · subst k; exact Rat.le_refl
    · omega
  have le2 : cmpQ b c ≤ 0 → b ≤ c := fun h => by
    rcases h2 with ⟨k, _⟩ | ⟨k, _⟩ | ⟨_, _, k, _⟩
    · exact Rat.le_of_lt k
    · subst k; exact Rat.le_refl
    · omega
  refine ⟨by omega, by omega, ⟨fun h => ?_, fun h => ?_⟩, fun p q => ?_, fun p q => ?_⟩
  · rcases h1 with ⟨_, _, k, _⟩ | ⟨k, _⟩ | ⟨_, _, k, _⟩
    · omega
    · exact k
    · omega
  · subst h; exact cmpQ_self a
  · have hac := Rat.le_trans (le1 p) (le2 q)
    rcases h3 with ⟨_, _, k, _⟩ | ⟨_, k, _⟩ | ⟨k, _⟩
    · omega
    · omega
    · exact absurd k (Rat.not_lt.2 hac)
  · have hab := le1 p
    have hbc : b < c := by
      rcases h2 with ⟨k, _⟩ | ⟨_, k, _⟩ | ⟨_, _, k, _⟩
      · exact k
      · omega
      · omega
    have hac : a < c := by grind
    rw [cmpQ_lt hac]
    decide
/-- All of it, at the texts that Long and Small hand back. -/
theorem ord_all {N1 D1 N2 D2 N3 D3 : ByteArray} {t : Rat} (h1 : LQ N1 D1) (h2 : LQ N2 D2) (h3 : LQ N3 D3) (ht : okO (some t) = true) :
    ∃ ab bc ac tc : Int, Cl 20 #[rv N1 D1, rv N2 D2] (.int .i64 ab) ∧ Cl 20 #[rv N2 D2, rv N3 D3] (.int .i64 bc) ∧ Cl 20 #[rv N1 D1, rv N3 D3] (.int .i64 ac) ∧
      Cl 20 #[rv N2 D2, rv N1 D1] (.int .i64 (-ab)) ∧ Cl 20 #[rv N1 D1, rv N1 D1] (.int .i64 0) ∧ OrdC N1 D1 N2 D2 (dec t.num) (dec (t.den : Int)) ab tc ∧
      (ab = -1 ∨ ab = 0 ∨ ab = 1) ∧ (tc = -1 ∨ tc = 0 ∨ tc = 1) ∧ (ab = 0 ↔ N1 = N2 ∧ D1 = D2) ∧ (ab ≤ 0 → bc ≤ 0 → ac ≤ 0) ∧ (ab ≤ 0 → bc < 0 → ac < 0) := by
  obtain ⟨a, rfl, rfl, a1, a2⟩ := h1
  obtain ⟨b, rfl, rfl, b1, b2⟩ := h2
  obtain ⟨c, rfl, rfl, c1, c2⟩ := h3
  have oa := lq_ok a1 a2
  have ob := lq_ok b1 b2
  have oc := lq_ok c1 c2
  obtain ⟨k1, k2, k3, k4, k5⟩ := ord_cmp a b c
  refine ⟨cmpQ a b, cmpQ b c, cmpQ a c, cmpQ t 0, fun W h => cmp_q oa ob W h, fun W h => cmp_q ob oc W h, fun W h => cmp_q oa oc W h, fun W h => ?_, fun W h => ?_, ord_c oa ob ht, k1, (ord_cmp t 0 0).1, ?_, k4, k5⟩
  · have k := cmp_q ob oa W h
    have e : cmpO (some b) (some a) = -cmpQ a b := k2
    rw [e] at k
    exact k
  · have k := cmp_q oa oa W h
    have e : cmpO (some a) (some a) = 0 := cmpQ_self a
    rw [e] at k
    exact k
  · rw [k3]
    constructor
    · intro e
      subst e
      exact ⟨rfl, rfl⟩
    · rintro ⟨e1, e2⟩
      exact Rat.ext (dec_inj e1) (by have := dec_inj e2; omega)
end Go.Proofs.YtgpncnnlhhmjaaaGreatDoor
