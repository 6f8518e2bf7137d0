/- Grows: without exceptions, what is so stays so. -/
import Derived.Test.YtiglkecmamnphaaLm
import Derived.Test.YtiglkecmamnphaaVm
import Derived.Test.YtiglkecmamnphaaOx
namespace Go.Proofs.Ytiglkecmamnphaa
open Go.RowKit Go.Sort Go.Lib

/-- What applies of the one applies of the other too. -/
structure Less (b b' : Bk) (q : Qn) : Prop where
  f : ∀ n, (sF b q n).isEmpty = false → (sF b' q n).isEmpty = false
  c : ∀ n, ∀ i ∈ sC b q n, ∃ j ∈ sC b' q n, clsOf b' j = clsOf b i
theorem so_grow {b b' : Bk} {q : Qn} (hb : LowB b) (hb' : LowB b') (hn : ∀ c ∈ b.cls, c.bars = []) (h : Less b b' q) : ∀ (k : Nat) (n : Int), 0 ≤ n → n < 20 → n.toNat < k → soB b q n = true → soB b' q n = true
  | 0, _, _, _, hk, _ => by omega
  | k + 1, n, h0, h1, hk, hs => by
    rw [soB_eq hb h0 h1] at hs
    rw [soB_eq hb' h0 h1]
    unfold stepB at hs ⊢
    rw [Bool.or_eq_true] at hs ⊢
    rcases hs with hs | hs
    · left
      rw [Bool.not_eq_true'] at hs ⊢
      exact h.f n hs
    · right
      rw [List.any_eq_true] at hs ⊢
      obtain ⟨i, hi, hok⟩ := hs
      obtain ⟨j, hj, e⟩ := h.c n i hi
      refine ⟨j, hj, ?_⟩
      rw [e]
      have hlow := sC_low hb hi
      have hbars := hn _ (clsOf_mem (mem_sC.1 hi).1)
      unfold okB at hok ⊢
      rw [hbars] at hok ⊢
      simp only [Bool.and_eq_true, List.all_eq_true] at hok ⊢
      refine ⟨fun m hm => ?_, fun m hm => by cases hm⟩
      have h2 := hlow.2.1 m hm
      have h3 := hok.1 m hm
      have h4 : soB b q m = true := by simpa using h3
      have := so_grow hb hb' hn h k m h2.1 (by omega) (by omega) h4
      rw [this]
      rfl
theorem so_more {b b' : Bk} {q : Qn} (hb : LowB b) (hb' : LowB b') (hn : ∀ c ∈ b.cls, c.bars = []) (h : Less b b' q) {n : Int} (h0 : 0 ≤ n) (h1 : n < 20) (hs : soB b q n = true) : soB b' q n = true := so_grow hb hb' hn h 20 n h0 h1 (by omega) hs
/-- Clauses and facts at the end. -/
theorem less_app (b : Bk) (q : Qn) (cs : List Cls) (fs : List Fct) : Less b ⟨b.cls ++ cs, b.rpl, b.fct ++ fs⟩ q := by
  have hF : ∀ i : Int, i.toNat < b.fct.length → fctOf ⟨b.cls ++ cs, b.rpl, b.fct ++ fs⟩ i = fctOf b i := fun i hi => by
    unfold fctOf
    dsimp only
    rw [List.getElem?_append_left hi]
  have hC : ∀ i : Int, i.toNat < b.cls.length → clsOf ⟨b.cls ++ cs, b.rpl, b.fct ++ fs⟩ i = clsOf b i := fun i hi => by
    unfold clsOf
    dsimp only
    rw [List.getElem?_append_left hi]
  refine ⟨fun n h => ?_, fun n i hi => ?_⟩
  · cases hl : sF b q n with
    | nil => rw [hl] at h; cases h
    | cons i l =>
      have hi : i ∈ sF b q n := by rw [hl]; exact List.mem_cons_self ..
      obtain ⟨h1, h2⟩ := mem_sF.1 hi
      obtain ⟨⟨h3, h4⟩, h5⟩ := mem_aF.1 h1
      have : i ∈ sF ⟨b.cls ++ cs, b.rpl, b.fct ++ fs⟩ q n := mem_sF.2 ⟨mem_aF.2 ⟨⟨h3, by dsimp only; rw [List.length_append]; omega⟩, by rw [hF i h4]; exact h5⟩, by rw [hF i h4]; exact h2⟩
      cases hq : sF ⟨b.cls ++ cs, b.rpl, b.fct ++ fs⟩ q n with
      | nil => rw [hq] at this; cases this
      | cons => rfl
  · obtain ⟨h1, h2⟩ := mem_sC.1 hi
    obtain ⟨⟨h3, h4⟩, h5⟩ := mem_aC.1 h1
    refine ⟨i, mem_sC.2 ⟨mem_aC.2 ⟨⟨h3, by dsimp only; rw [List.length_append]; omega⟩, ?_⟩, by rw [hC i h4]; exact h2⟩, hC i h4⟩
    rw [hC i h4]
    exact h5
/-- The rules that a proof leans on. -/
theorem less_less {c : Bk} {q : Qn} {Cl F : List Int} (hs : Sub c q Cl F) : Less (lessB c Cl F) c q := by
  refine ⟨fun n h => ?_, fun n i hi => ?_⟩
  · cases hl : sF (lessB c Cl F) q n with
    | nil => rw [hl] at h; cases h
    | cons i l =>
      obtain ⟨_, j, _, _, hj⟩ := less_sF hs (n := n) (x := i) (by rw [hl]; exact List.mem_cons_self ..)
      cases hq : sF c q n with
      | nil => rw [hq] at hj; cases hj
      | cons => rfl
  · obtain ⟨k, j, rfl, hk, hj⟩ := less_sC hs hi
    exact ⟨j, hj, (less_cls hk).symm⟩
theorem less_nobars {c : Bk} {q : Qn} {Cl F : List Int} (hs : Sub c q Cl F) (hn : ∀ x ∈ c.cls, x.bars = []) : ∀ x ∈ (lessB c Cl F).cls, x.bars = [] := fun x hx => by
  obtain ⟨i, hi, rfl⟩ := List.mem_map.1 (show x ∈ Cl.map (clsOf c) from hx)
  exact hn _ (clsOf_mem (hs.mc i hi))
/-- What applies does not look at what is asked. -/
theorem less_says {b b' : Bk} {th s s' tm kn : Int} (h : Less b b' ⟨th, s, tm, kn⟩) : Less b b' ⟨th, s', tm, kn⟩ := ⟨h.f, h.c⟩
/-- Rules without exceptions. -/
def bareB (b : Bk) : Bk := ⟨b.cls.map fun c => { c with bars := [] }, b.rpl, b.fct⟩
theorem bare_valid {b : Bk} (h : validB b = true) : validB (bareB b) = true := by
  simp only [validB, Bool.and_eq_true, decide_eq_true_eq, List.all_eq_true, bareB, List.length_map] at h ⊢
  refine ⟨⟨⟨⟨⟨h.1.1.1.1.1, decide_eq_true h.1.1.1.1.2⟩, decide_eq_true h.1.1.1.2⟩, fun c hc => ?_⟩, h.1.2⟩, h.2⟩
  obtain ⟨y, hy, rfl⟩ := List.mem_map.1 hc
  have := h.1.1.2 y hy
  unfold clsB at this ⊢
  simp only [Bool.and_eq_true] at this ⊢
  exact ⟨this.1, by unfold termsB termsL; simp⟩
theorem bare_none (b : Bk) : ∀ c ∈ (bareB b).cls, c.bars = [] := fun c hc => by
  obtain ⟨y, _, rfl⟩ := List.mem_map.1 (show c ∈ b.cls.map _ from hc)
  rfl
/-- The rules, grown. -/
def grownB (b e : Bk) : Bk := ⟨b.cls ++ (bareB e).cls, b.rpl, b.fct ++ e.fct⟩
theorem grown_valid {b e : Bk} (hb : validB b = true) (he : validB e = true) (h1 : b.cls.length + e.cls.length ≤ 20) (h2 : b.fct.length + e.fct.length ≤ 20) : validB (grownB b e) = true := by
  have he' := bare_valid he
  simp only [validB, Bool.and_eq_true, decide_eq_true_eq, List.all_eq_true] at he'
  have hr := hb
  simp only [validB, Bool.and_eq_true, decide_eq_true_eq] at hr
  have := valid_app (b := b) (cs := (bareB e).cls) (rs := []) (fs := e.fct) hb (by show _ + (e.cls.map _).length ≤ 20; rw [List.length_map]; exact h1) (by rw [List.length_nil]; omega) h2 (fun c hc => he'.1.1.2 c hc) (fun r hr => by cases hr) (fun f hf => he'.2 f hf)
  rw [List.append_nil] at this
  exact this
/-- Rows that were laid later do not turn with an earlier row of clauses. -/
theorem OwnB.off {W : World} {B0 B n m g cap j : Nat} {cv rv fv v : Value} {cs : List CV} {rs : List Rpl} {fs : List Fct} {xs : List Value} (h : OwnB W B cv rv fv cs rs fs) (hc : W.ownsRow B0 51 6 (.slice (some ⟨g, 0, Option.none⟩) n cap) m xs) (hlt : g < B) : OwnB (W.setCell ⟨g, j, Option.none⟩ v) B cv rv fv cs rs fs := by
  have hg : W.grownBy (W.setCell ⟨g, j, Option.none⟩ v) (Value.slice (some ⟨g, 0, Option.none⟩) n cap).ownBlock := grown_set W g j v
  refine ⟨h.c.kept hg ?_, fun p hp => ⟨(h.n p hp).1.kept hc (by decide) hg, (h.n p hp).2.kept hc (by decide) hg⟩, h.r.kept hg (own_apart h.r hc (by decide)), h.f.kept hg (own_apart h.f hc (by decide))⟩
  cases hv : cv.ownBlock with
  | none => exact .inl rfl
  | some g' =>
    refine .inr fun e => ?_
    have e' : g' = g := by cases e; rfl
    have := (h.c.lt g' hv).1
    omega
end Go.Proofs.Ytiglkecmamnphaa
