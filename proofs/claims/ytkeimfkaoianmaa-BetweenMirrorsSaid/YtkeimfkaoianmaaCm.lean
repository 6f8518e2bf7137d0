/- What BetweenContradicts and BetweenMirrors say, plainly. -/
import Derived.Test.YtkeimfkaoianmaaMi
namespace Go.Proofs.Ytkeimfkaoianmaa
open Go.RowKit

theorem cmpC_lt {l b : List Nat} (h : cmpC (ints l) (ints b) < 0) : l.length ≤ b.length := by
  unfold cmpC at h
  rw [ints_len, ints_len] at h
  split at h <;> omega
theorem cmpC_ge {l b : List Nat} (h : ¬ cmpC (ints l) (ints b) < 0) : b.length ≤ l.length := by
  unfold cmpC at h
  rw [ints_len, ints_len] at h
  split at h <;> omega
/-- What the fold of Cycle answers after k variables. -/
theorem cyO_fold (bs : List Bn) (n : Nat) : ∀ k : Nat, match (List.range k).foldl (cyStep bs n) none with
    | none => ∀ u : Nat, u < k → shO bs n u u (-1) = none
    | some l => (∃ u : Nat, u < k ∧ shO bs n u u (-1) = some l) ∧ ∀ u : Nat, u < k → ∀ m, shO bs n u u (-1) = some m → l.length ≤ m.length
  | 0 => fun u hu => by omega
  | k + 1 => by
    have ih := cyO_fold bs n k
    rw [cyO_succ]
    generalize (List.range k).foldl (cyStep bs n) none = O at *
    unfold cyStep
    cases hs : shO bs n (k : Int) (k : Int) (-1) with
    | none =>
      dsimp only
      cases O with
      | none =>
        intro u hu
        rcases Nat.lt_or_ge u k with h | h
        · exact ih u h
        · obtain rfl : u = k := by omega
          exact hs
      | some l =>
        obtain ⟨⟨u, hu, h1⟩, h2⟩ := ih
        refine ⟨⟨u, by omega, h1⟩, fun u hu m hm => ?_⟩
        rcases Nat.lt_or_ge u k with h | h
        · exact h2 u h m hm
        · obtain rfl : u = k := by omega
          rw [hs] at hm; cases hm
    | some l =>
      dsimp only
      cases O with
      | none =>
        refine ⟨⟨k, by omega, hs⟩, fun u hu m hm => ?_⟩
        rcases Nat.lt_or_ge u k with h | h
        · have := ih u h; rw [this] at hm; cases hm
        · obtain rfl : u = k := by omega
          rw [hs] at hm; cases hm; exact Nat.le_refl _
      | some b =>
        obtain ⟨⟨u, hu, h1⟩, h2⟩ := ih
        dsimp only
        by_cases hc : cmpC (ints l) (ints b) < 0
        · rw [if_pos hc]
          refine ⟨⟨k, by omega, hs⟩, fun u hu m hm => ?_⟩
          rcases Nat.lt_or_ge u k with h | h
          · have := h2 u h m hm; have := cmpC_lt hc; omega
          · obtain rfl : u = k := by omega
            rw [hs] at hm; cases hm; exact Nat.le_refl _
        · rw [if_neg hc]
          refine ⟨⟨u, by omega, h1⟩, fun u hu m hm => ?_⟩
          rcases Nat.lt_or_ge u k with h | h
          · exact h2 u h m hm
          · obtain rfl : u = k := by omega
            rw [hs] at hm; cases hm; exact cmpC_ge hc
section cyc
variable {bs : List Bn} {n : Nat} (ho : Okb n bs) (hn : n ≤ 16)
include ho hn
theorem sh_bad {u : Int} {l : List Nat} (h : shO bs n u u (-1) = some l) : l.length ≤ n ∧ ∃ s, Way bs u l u s ∧ s ≤ -1 := by
  obtain ⟨k, hk, hF, rfl⟩ := shO_some.1 h
  obtain ⟨h1, s, hw, hs⟩ := folL_way ho (by omega) hF (by unfold Sm; omega)
  exact ⟨by omega, s, hw, hs⟩
/-- What Cycle finds: a contradiction with the fewest bounds. -/
theorem cyO_bad {l : List Nat} (h : cyO bs n = some l) : (∃ u : Nat, ∃ s, u < n ∧ Way bs u l u s ∧ s ≤ -1) ∧ l.length ≤ n ∧ ∀ x, Bad bs x → l.length ≤ x.length := by
  have hf := cyO_fold bs n n
  have e : (List.range n).foldl (cyStep bs n) none = some l := h
  rw [e] at hf
  obtain ⟨⟨u, hu, h1⟩, h2⟩ := hf
  obtain ⟨h3, s, hw, hs⟩ := sh_bad ho hn h1
  refine ⟨⟨u, s, hu, hw, hs⟩, h3, fun x hx => ?_⟩
  obtain ⟨m, m1, m2, m3, _⟩ := hx.small ho
  obtain ⟨v, hv, ht⟩ := m1.tb ho (k := m.length) (by omega) (Nat.le_refl _)
  have hi : (shO bs n (v : Int) (v : Int) (-1)).isSome := by
    rw [shO_is ho hn]
    have := tb_mono ho m2 (by omega) (v : Int) (v : Int)
    exact decide_eq_true (by omega)
  obtain ⟨l', hl'⟩ := Option.isSome_iff_exists.1 hi
  have h4 := h2 v hv l' hl'
  obtain ⟨k, hk, hF, rfl⟩ := shO_some.1 hl'
  have h5 := (folL_way ho (by omega) hF (by unfold Sm; omega)).1
  have h6 : k ≤ m.length := by
    rcases Nat.lt_or_ge m.length k with q | q
    · have := hF.2 _ q; omega
    · exact q
  omega
theorem cyO_fine (h : cyO bs n = none) : Fine bs := by
  have hf := cyO_fold bs n n
  have e : (List.range n).foldl (cyStep bs n) none = none := h
  rw [e] at hf
  intro x hx
  obtain ⟨m, m1, m2, m3, _⟩ := hx.small ho
  obtain ⟨v, hv, ht⟩ := m1.tb ho (k := m.length) (by omega) (Nat.le_refl _)
  have hi : (shO bs n (v : Int) (v : Int) (-1)).isSome := by
    rw [shO_is ho hn]
    have := tb_mono ho m2 (by omega) (v : Int) (v : Int)
    exact decide_eq_true (by omega)
  rw [hf v hv] at hi
  cases hi
theorem cyO_check {l : List Nat} (h : cyO bs n = some l) (hv : validB (n : Int) bs = true) : checkCycleB (n : Int) bs (ints l) = true := by
  obtain ⟨⟨u, s, hu, hw, hs⟩, h2, _⟩ := cyO_bad ho hn h
  unfold checkCycleB
  rw [hv, Bool.true_and, List.any_eq_true, Int.toNat_natCast]
  exact ⟨u, List.mem_range.2 hu, way_shows hw hs (by omega)⟩
end cyc
theorem checkCycle_bad {n : Int} {bs : List Bn} {l : List Int} (h : checkCycleB n bs l = true) : ∃ l', Bad bs l' := by
  unfold checkCycleB at h
  rw [Bool.and_eq_true, List.any_eq_true] at h
  obtain ⟨_, u, _, hs⟩ := h
  obtain ⟨l', s, hw, hs⟩ := shows_way hs
  exact ⟨l', (u : Int), s, hw, by omega⟩
theorem checkCycle_nil {n : Int} {bs : List Bn} : checkCycleB n bs [] = false := by
  unfold checkCycleB
  rw [Bool.and_eq_false_iff]
  refine .inr ?_
  rw [List.any_eq_false]
  intro u _
  simp [showsB, goL]
theorem allowed_fine {n : Int} {bs : List Bn} {x : List Int} (h : allowedB n bs x = true) : Fine bs := by
  unfold allowedB keepsB at h
  simp only [Bool.and_eq_true, List.all_eq_true, decide_eq_true_eq] at h
  exact Fine.of_pot (x := fun i => x.getD i.toNat 0) fun c hc => h.2 c hc
theorem Way.mono {b1 b2 : List Bn} (hm : ∀ c ∈ b1, c ∈ b2) {u v s : Int} {l : List Nat} (h : Way b1 u l v s) : ∃ l', l'.length = l.length ∧ Way b2 u l' v s := by
  induction h with
  | nil u => exact ⟨[], rfl, .nil u⟩
  | cons hi hu h ih =>
    obtain ⟨l', h1, h2⟩ := ih
    obtain ⟨j, hj⟩ := List.getElem?_of_mem (hm _ (List.mem_of_getElem? hi))
    exact ⟨j :: l', by simp [h1], .cons hj hu h2⟩
theorem Way.pot_of {bs : List Bn} {x : Int → Int} {u v s : Int} {l : List Nat} (h : Way bs u l v s) : (∀ i ∈ l, ∀ c, bs[i]? = some c → x c.2.1 - x c.1 ≤ c.2.2) → x v - x u ≤ s := by
  induction h with
  | nil u => intro _; omega
  | cons hi hu h ih =>
    intro hx
    have h1 := hx _ List.mem_cons_self _ hi
    have h2 := ih fun i hi' => hx i (List.mem_cons_of_mem _ hi')
    subst hu
    omega
theorem Way.mem_lt {bs : List Bn} {u v s : Int} {l : List Nat} (h : Way bs u l v s) : ∀ i ∈ l, i < bs.length := by
  induction h with
  | nil u => intro i hi; cases hi
  | cons hi hu h ih =>
    intro i hm
    rcases List.mem_cons.1 hm with rfl | hm
    · exact (List.getElem?_eq_some_iff.1 hi).1
    · exact ih i hm
/-- The bounds at some indices. -/
def selB (bs : List Bn) (l : List Nat) : List Bn := l.map fun i => (bs[i]?).getD (0, 0, 0)
theorem selB_len (bs : List Bn) (l : List Nat) : (selB bs l).length = l.length := by simp [selB]
theorem selB_mem {bs : List Bn} {l : List Nat} (hl : ∀ i ∈ l, i < bs.length) : ∀ c ∈ selB bs l, c ∈ bs := by
  intro c hc
  obtain ⟨i, hi, rfl⟩ := List.mem_map.1 hc
  rw [List.getElem?_eq_getElem (hl i hi)]
  exact List.getElem_mem _
theorem selB_snoc (bs : List Bn) (l : List Nat) (i : Nat) (c : Bn) (h : bs[i]? = some c) : selB bs (l ++ [i]) = selB bs l ++ [c] := by simp [selB, h]
/-- The bounds of a bad chain have no situation. -/
theorem sel_bad {bs : List Bn} {n : Nat} (ho : Okb n bs) (hn : n ≤ 16) {l : List Nat} {u s : Int} (hw : Way bs u l u s) (hs : s < 0) : badB n (selB bs l) = true := by
  have hm := selB_mem hw.mem_lt
  have ho2 : Okb n (selB bs l) := fun c hc => ho c (hm c hc)
  cases hb : badB n (selB bs l) with
  | true => rfl
  | false =>
    have hf := (badB_false (by omega) ho2).1 hb
    have hk := sol_keeps ho2 hn hf
    have := hw.pot_of (x := sol n (selB bs l)) fun i hi c hc => hk c (List.mem_map.2 ⟨i, hi, by rw [hc]; rfl⟩)
    omega
/-- Without one of them they have one. -/
theorem sel_fine {bs : List Bn} {l : List Nat} (hl : ∀ i ∈ l, i < bs.length) (hmin : ∀ x, Bad bs x → l.length ≤ x.length) {m : List Nat} (hm : ∀ i ∈ m, i ∈ l) (hlt : m.length < l.length) : Fine (selB bs m) := by
  intro x hx
  obtain ⟨y, h1, h2, h3⟩ := hx.least
  have hs := h1.simple h3
  have hs' : y.Nodup := by
    unfold frs at hs
    exact (List.pairwise_map.1 hs).imp fun h e => h (by rw [e])
  obtain ⟨u, s, hw, hneg⟩ := h1
  have hlen := nodup_le hs' (m := List.range (selB bs m).length) (fun i hi => List.mem_range.2 (hw.mem_lt i hi))
  rw [List.length_range, selB_len] at hlen
  obtain ⟨z, z1, z2⟩ := hw.mono (selB_mem (fun i hi => hl i (hm i hi)))
  have := hmin z ⟨u, s, z2, hneg⟩
  omega
/-! Mirrors. -/
def trn (c : Bn) : Bn := (c.2.1, c.1, c.2.2)
theorem trn_trn (bs : List Bn) : (bs.map trn).map trn = bs := by
  rw [List.map_map]
  have : trn ∘ trn = id := by funext c; rfl
  rw [this, List.map_id]
theorem trn_okb {n : Int} {bs : List Bn} (h : Okb n bs) : Okb n (bs.map trn) := fun c hc => by
  obtain ⟨d, hd, rfl⟩ := List.mem_map.1 hc
  have := h d hd
  exact ⟨this.2.1, this.1, this.2.2⟩
theorem Way.trn {bs : List Bn} {u v s : Int} {l : List Nat} (h : Way bs u l v s) : Way (bs.map trn) v l.reverse u s := by
  induction h with
  | nil u => exact .nil u
  | @cons u i c l v s hi hu h ih =>
    subst hu
    have h1 : (bs.map Go.Proofs.Ytkeimfkaoianmaa.trn)[i]? = some (Go.Proofs.Ytkeimfkaoianmaa.trn c) := by rw [List.getElem?_map, hi]; rfl
    have h2 := ih.append (Way.one h1)
    rw [List.reverse_cons, Int.add_comm]
    exact h2
theorem tb_trn_le {bs : List Bn} {n k : Nat} (ho : Okb n bs) (hk : k ≤ 1000) (u v : Int) : tb (bs.map trn) k v u ≤ tb bs k u v := by
  by_cases h : tb bs k u v = farI
  · rw [h]; exact tb_far _ _ _ _
  · obtain ⟨l, hl, hw⟩ := tb_way k h
    exact way_tb (trn_okb ho) k hk (by simpa using hl) hw.trn
theorem tb_trn {bs : List Bn} {n k : Nat} (ho : Okb n bs) (hk : k ≤ 1000) (u v : Int) : tb (bs.map trn) k v u = tb bs k u v := by
  have h1 := tb_trn_le ho hk u v
  have h2 := tb_trn_le (trn_okb ho) hk v u
  rw [trn_trn] at h2
  omega
theorem badB_trn {bs : List Bn} {n : Nat} (ho : Okb n bs) (hn : n ≤ 16) : badB n (bs.map trn) = badB n bs := by
  have k : ∀ u : Nat, tb (bs.map trn) n (u : Int) (u : Int) = tb bs n (u : Int) (u : Int) := fun u => tb_trn ho (by omega) _ _
  unfold badB
  simp only [k]
theorem bndB_trn (n : Int) (c : Bn) : bndB n (trn c) = bndB n c := by
  unfold bndB trn
  rw [Bool.and_comm (varB n c.2.1)]
theorem validB_trn (n : Int) (bs : List Bn) : validB n (bs.map trn) = validB n bs := by
  unfold validB
  rw [List.length_map, List.all_map]
  congr 1
  congr 1
  funext c
  exact bndB_trn n c
theorem fineB_trn {bs : List Bn} {n : Nat} (ho : Okb n bs) (hn : n ≤ 16) : fineB (n : Int) (bs.map trn) = fineB (n : Int) bs := by
  rw [fineB_nat, fineB_nat, validB_trn, badB_trn ho hn]
theorem getD_neg (x : List Int) (i : Nat) : (x.map fun a => -a).getD i 0 = -(x.getD i 0) := by
  rw [List.getD_eq_getElem?_getD, List.getD_eq_getElem?_getD, List.getElem?_map]
  cases x[i]? <;> rfl
theorem allowed_trn (n : Int) (bs : List Bn) (x : List Int) : allowedB n (bs.map trn) (x.map fun a => -a) = allowedB n bs x := by
  unfold allowedB keepsB
  rw [validB_trn, List.length_map, List.all_map, List.all_map]
  congr 1
  · congr 1
    congr 1
    funext a
    simp only [Function.comp_apply, inB]
    rw [Bool.and_comm]
    congr 1 <;> exact decide_eq_decide.2 (by omega)
  · congr 1
    funext c
    have g1 := getD_neg x c.1.toNat
    have g2 := getD_neg x c.2.1.toNat
    simp only [Function.comp_apply, trn]
    exact decide_eq_decide.2 (by rw [g1, g2]; omega)
theorem allowed_moved {n : Nat} {bs : List Bn} {x : List Int} (hv : validB (n : Int) bs = true) (hl : x.length = n) (hb : ∀ a ∈ x, -1000 ≤ a ∧ a ≤ 1000) (d : Int) (hd : -1000000 ≤ d ∧ d ≤ 1000000) : allowedB (n : Int) bs (x.map fun a => a + d) = allowedB (n : Int) bs x := by
  obtain ⟨_, _, ho⟩ := validB_iff.1 hv
  have a1 : (x.map fun a => a + d).all (inB 1000000000000) = true := by
    rw [List.all_eq_true]
    intro y hy
    obtain ⟨a, ha, rfl⟩ := List.mem_map.1 hy
    have := hb a ha
    exact inB_iff.2 ⟨by omega, by omega⟩
  have a2 : x.all (inB 1000000000000) = true := by
    rw [List.all_eq_true]
    intro a ha
    have := hb a ha
    exact inB_iff.2 ⟨by omega, by omega⟩
  have g : ∀ i : Int, 0 ≤ i → i < n → (x.map fun a => a + d).getD i.toNat 0 = x.getD i.toNat 0 + d := by
    intro i h0 h1
    have : i.toNat < x.length := by omega
    rw [List.getD_eq_getElem?_getD, List.getD_eq_getElem?_getD, List.getElem?_map, List.getElem?_eq_getElem this]
    rfl
  unfold allowedB
  rw [a1, a2, List.length_map]
  congr 1
  unfold keepsB
  have k : ∀ c ∈ bs, (decide ((x.map fun a => a + d).getD c.2.1.toNat 0 - (x.map fun a => a + d).getD c.1.toNat 0 ≤ c.2.2)) = decide (x.getD c.2.1.toNat 0 - x.getD c.1.toNat 0 ≤ c.2.2) := fun c hc => by
    have := ho c hc
    rw [g _ this.1.1 this.1.2, g _ this.2.1.1 this.2.1.2]
    exact decide_eq_decide.2 (by omega)
  rw [Bool.eq_iff_iff, List.all_eq_true, List.all_eq_true]
  exact ⟨fun h c hc => by rw [← k c hc]; exact h c hc, fun h c hc => by rw [k c hc]; exact h c hc⟩
end Go.Proofs.Ytkeimfkaoianmaa
