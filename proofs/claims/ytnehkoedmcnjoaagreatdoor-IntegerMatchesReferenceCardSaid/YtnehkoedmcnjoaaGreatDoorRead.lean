/- Reading digits into groups; writing groups as digits. No program. -/
import Derived.Test.YtnehkoedmcnjoaaGreatDoorGrp
namespace Go.Proofs.YtnehkoedmcnjoaaGreatDoor
open Go

/-- How the columns stand before digit number i of L digits is put in: groups that are full, the group that is being filled, zeros. -/
def Fill (L m i : Nat) (v : Nat) (C : List Int) : Prop :=
  ∃ (P : List Int) (x : Nat), C = P ++ (x : Int) :: List.replicate ((L - 1 - i) / 4) 0 ∧ P.length = m - 1 - (L - 1 - i) / 4 ∧ Gs P ∧ x < 10 ^ (3 - (L - 1 - i) % 4) ∧ gv P * 10 ^ (3 - (L - 1 - i) % 4) + x = v
theorem fill_start (L m : Nat) (hL : 0 < L) (hm : m = (L + 3) / 4) : Fill L m 0 0 (List.replicate m 0) := by
  refine ⟨[], 0, ?_, by simp; omega, by intro g hg; simp at hg, Nat.pow_pos (by decide), by simp [gv_nil]⟩
  have : m = (L - 1 - 0) / 4 + 1 := by omega
  rw [this, List.replicate_succ]; simp
theorem fill_at {L m i v : Nat} {C : List Int} (h : Fill L m i v C) (hi : i < L) (hm : m = (L + 3) / 4) :
    C.length = m ∧ ∃ x : Nat, C[m - 1 - (L - 1 - i) / 4]? = some (x : Int) ∧ x < 1000 := by
  obtain ⟨P, x, rfl, hP, _, hx, _⟩ := h
  refine ⟨by simp; omega, x, by rw [← hP]; simp, ?_⟩
  have : 10 ^ (3 - (L - 1 - i) % 4) ≤ 10 ^ 3 := Nat.pow_le_pow_right (by decide) (by omega)
  omega
theorem fill_step {L m i v d x : Nat} {C : List Int} (h : Fill L m i v C) (hi : i + 1 < L) (hm : m = (L + 3) / 4) (hd : d < 10) (hx : C[m - 1 - (L - 1 - i) / 4]? = some (x : Int)) :
    Fill L m (i + 1) (v * 10 + d) (C.set (m - 1 - (L - 1 - i) / 4) ((x * 10 + d : Nat) : Int)) := by
  obtain ⟨P, y, rfl, hP, hG, hy, hv⟩ := h
  have hxy : x = y := by
    rw [← hP] at hx
    have h9 : (x : Int) = y := by simpa using hx.symm
    omega
  subst hxy
  rw [← hP, List.set_append_right _ _ (Nat.le_refl _), Nat.sub_self, List.set_cons_zero]
  by_cases hr : (L - 1 - i) % 4 = 0
  · rw [hr] at hy hv
    refine ⟨P ++ [((x * 10 + d : Nat) : Int)], 0, ?_, by rw [List.length_append, hP]; simp; omega, ?_, Nat.pow_pos (by decide), ?_⟩
    · have e : (L - 1 - i) / 4 = (L - 1 - (i + 1)) / 4 + 1 := by omega
      rw [e, List.replicate_succ]; simp
    · intro g hg
      rcases List.mem_append.1 hg with h1 | h1
      · exact hG g h1
      · simp only [List.mem_singleton] at h1; subst h1; simp only [Nat.sub_zero, Nat.reducePow] at hy; omega
    · rw [show 3 - (L - 1 - (i + 1)) % 4 = 0 by omega, gv_snoc]
      simp only [Nat.sub_zero, Int.reducePow] at hv
      simp; omega
  · refine ⟨P, x * 10 + d, ?_, by rw [hP]; omega, hG, ?_, ?_⟩
    · rw [show (L - 1 - (i + 1)) / 4 = (L - 1 - i) / 4 by omega]
    · rw [show 3 - (L - 1 - (i + 1)) % 4 = (3 - (L - 1 - i) % 4) + 1 by omega, Nat.pow_succ]; omega
    · rw [show 3 - (L - 1 - (i + 1)) % 4 = (3 - (L - 1 - i) % 4) + 1 by omega, Int.pow_succ, ← Int.mul_assoc]; omega
theorem fill_last {L m i v d x : Nat} {C : List Int} (h : Fill L m i v C) (hi : i + 1 = L) (hm : m = (L + 3) / 4) (hd : d < 10) (hx : C[m - 1 - (L - 1 - i) / 4]? = some (x : Int)) :
    gv (C.set (m - 1 - (L - 1 - i) / 4) ((x * 10 + d : Nat) : Int)) = ((v * 10 + d : Nat) : Int) ∧ Gs (C.set (m - 1 - (L - 1 - i) / 4) ((x * 10 + d : Nat) : Int)) := by
  obtain ⟨P, y, rfl, hP, hG, hy, hv⟩ := h
  have hxy : x = y := by
    rw [← hP] at hx
    have h9 : (x : Int) = y := by simpa using hx.symm
    omega
  subst hxy
  have h0 : L - 1 - i = 0 := by omega
  rw [h0] at hy hv
  rw [← hP, List.set_append_right _ _ (Nat.le_refl _), Nat.sub_self, List.set_cons_zero, h0]
  simp only [Nat.zero_div, Nat.zero_mod, Nat.sub_zero, Nat.reducePow, Int.reducePow, List.replicate_zero] at hy hv ⊢
  refine ⟨by rw [gv_snoc]; omega, ?_⟩
  intro g hg
  rcases List.mem_append.1 hg with h1 | h1
  · exact hG g h1
  · simp only [List.mem_singleton] at h1; subst h1; omega

/-! ### writing -/
/-- The digits of the first group, then four digits for each further one. -/
def txtG : List Int → List UInt8
  | [] => [48]
  | g :: r => Lib.decDigits g.toNat ++ r.flatMap fun x => pad4 x.toNat
theorem txt_more (n : Nat) (hn : 0 < n) (r : List Int) (hr : Gs r) : Lib.decDigits n ++ (r.flatMap fun x => pad4 x.toNat) = Lib.decDigits (gA n r).toNat := by
  induction r generalizing n with
  | nil => simp [gA]
  | cons g r ih =>
    have hg := hr.head
    rw [List.flatMap_cons, ← List.append_assoc, ← dec_group n g.toNat hn (by omega), ih _ (by omega) hr.tail, gA]
    congr 2; congr 1; omega
theorem txt_grp (n : Nat) : txtG (grp n) = Lib.decDigits n := by
  rcases Nat.eq_zero_or_pos n with rfl | h
  · rw [grp_zero, decDigits_zero]; rfl
  · have h1 := gs_grp n
    have h2 := grp_head n
    have h3 := gv_grp n
    match hd : grp n, grp_ne h with
    | g :: r, _ =>
      rw [hd] at h1 h2 h3
      have hg := h1.head
      have hg0 : g ≠ 0 := by intro e; subst e; simp at h2
      rw [txtG, txt_more _ (by omega) r h1.tail]
      congr 1
      have : gA ((g.toNat : Nat) : Int) r = gv (g :: r) := by
        unfold gv
        rw [gA, show (0 : Int) * 10000 + g = ((g.toNat : Nat) : Int) by omega]
      rw [this, h3]; simp
end Go.Proofs.YtnehkoedmcnjoaaGreatDoor
