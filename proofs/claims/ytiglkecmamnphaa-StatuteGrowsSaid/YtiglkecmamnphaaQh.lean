/- A region that draws its order, parted: its head is walked as a region of its own (with whatever condition on the worlds), then the rest follows one by one: 'x.f = append(x.f, T{a: f(), ..})'. -/
import Derived.Test.YtiglkecmamnphaaQt
import Derived.Deep.RegionHeld3
namespace Go.Proofs.Ytiglkecmamnphaa
open Go Go.RowKit Go.Sort Go.Lib

theorem any_more {P : Program} {md : Region.Mode} {ops : Array Oper} {Q : Exit → Act → World → Prop} : ∀ (f : Nat) (s : Array Bool) (a : Act) (w : World), wpAny P md ops Q f s a w → wpAny P md ops Q (f + 1) s a w
  | 0, s, a, w, h => ⟨fun _ => h.2, fun i hi => by rw [h.1] at hi; cases hi⟩
  | f + 1, s, a, w, h => ⟨h.1, fun i hi => wpOp_mono (fun a' w' h' => any_more f _ a' w' h') (h.2 i hi)⟩
theorem any_moreN {P : Program} {md : Region.Mode} {ops : Array Oper} {Q : Exit → Act → World → Prop} {f : Nat} {s : Array Bool} {a : Act} {w : World} (h : wpAny P md ops Q f s a w) : ∀ k, wpAny P md ops Q (k + f) s a w
  | 0 => by rw [Nat.zero_add]; exact h
  | k + 1 => by rw [Nat.add_right_comm]; exact any_more _ _ _ _ (any_moreN h k)
/-- Head operations wait for earlier ones only, and are guarded by earlier ones only. -/
def earlierB (md : Region.Mode) (ops : Array Oper) (n : Nat) : Bool :=
  (List.range n).all fun j => match ops[j]? with
    | some o => (o.after.toList.all fun e => !Region.binds md e || decide (e.on < j)) && (match o.guard with | some (g, _) => decide (g < n) | none => true)
    | none => false
theorem earlier_spec {md : Region.Mode} {ops : Array Oper} {n : Nat} (h : earlierB md ops n = true) {j : Nat} (hj : j < n) : ∃ o, ops[j]? = some o ∧ (∀ e ∈ o.after, Region.binds md e = true → e.on < j) ∧ ∀ g b, o.guard = some (g, b) → g < n := by
  have h1 := List.all_eq_true.1 h j (List.mem_range.2 hj)
  cases ho : ops[j]? with
  | none => rw [ho] at h1; cases h1
  | some o =>
    rw [ho] at h1
    simp only [Bool.and_eq_true, List.all_eq_true, Bool.or_eq_true, Bool.not_eq_true', decide_eq_true_eq] at h1
    refine ⟨o, rfl, fun e he hb => ?_, fun g b hg => ?_⟩
    · rcases h1.1 e (by simpa using he) with h2 | h2
      · rw [hb] at h2; cases h2
      · exact h2
    · have h2 := h1.2
      rw [hg] at h2
      simpa using h2
theorem wanted_congr {o : Oper} {y z : Nat → Option Bool} {n : Nat} (hg : ∀ g b, o.guard = some (g, b) → g < n) (h : ∀ g, g < n → y g = z g) : Region.wanted o y = Region.wanted o z := by
  unfold Region.wanted
  cases e : o.guard with
  | none => rfl
  | some p =>
    obtain ⟨g, b⟩ := p
    have := h g (hg g b e)
    simp only [this]
theorem wp_then {P : Program} {o : Oper} {a : Act} {w : World} {K : Act → World → Prop} {N : Act → World → Prop} {Q : Exit → Act → World → Prop} (h : o.wp P a w K (Exit.then N Q)) : o.wp P a w K Q := by
  unfold Oper.wp at *
  generalize (execOp a.eval o).run P w = r at *
  cases r with
  | ok n w' =>
    cases n <;> simp only [Oper.upon] at h ⊢ <;>
      first
        | exact h
        | exact Calls.mono h (fun e w'' he => by cases e <;> first | exact he | (obtain ⟨a1, w1, h1⟩ := he; exact ⟨a1, w1, h1⟩))
  | halt x w' => cases x <;> simp only [Oper.upon] at h ⊢ <;> exact h
section
variable {P : Program} {md : Region.Mode} {ops hd : Array Oper} {n g : Nat} {K : Act → World → Prop} {Q : Exit → Act → World → Prop}
theorem any_of_head (hsz : hd.size = n) (hh : ∀ j, j < n → hd[j]? = ops[j]?) (hs : Region.sinkB md ops n = true) (hc : Region.chainB md ops n = true) (hn : n < ops.size) (he : earlierB md ops n = true)
    (hK : ∀ s a w, HeadInv md ops n s → (∀ j, j < n → s.getD j false = true) → K a w → wpAny P md ops Q g s a w) :
    ∀ (f : Nat) (s s' : Array Bool) (a : Act) (w : World), s.size = n → HeadInv md ops n s' → (∀ j, j < n → s'.getD j false = s.getD j false) → wpAny P md hd (Exit.then K Q) f s a w → wpAny P md ops Q (f + g) s' a w := by
  -- the least one that has not come up may come up
  have least : ∀ (s : Array Bool), s.size = n → ∀ j, j < n → s.getD j false = false → ∃ i, i ∈ Region.ready md hd s := by
    intro s hss j
    induction j using Nat.strongRecOn with
    | _ j ih =>
      intro hj hl
      obtain ⟨o, ho, ha, _⟩ := earlier_spec he hj
      by_cases hall : ∀ e ∈ o.after, Region.binds md e = true → s.getD e.on false = true
      · exact ⟨j, mem_ready.2 ⟨getD_in (by omega) hl, o, by rw [hh j hj]; exact ho, hall⟩⟩
      · have : ∃ e, e ∈ o.after ∧ Region.binds md e = true ∧ ¬ s.getD e.on false = true := by
          apply Classical.byContradiction
          intro hno
          exact hall fun e h1 h2 => Classical.byContradiction fun h3 => hno ⟨e, h1, h2, h3⟩
        obtain ⟨e, h1, h2, h3⟩ := this
        have h4 := ha e h1 h2
        exact ih e.on h4 (by omega) (by simpa using h3)
  intro f
  induction f with
  | zero =>
    intro s s' a w hss inv heq h
    rw [Nat.zero_add]
    refine hK s' a w inv (fun j hj => ?_) h.2
    cases hl : s.getD j false with
    | true => rw [heq j hj, hl]
    | false =>
      obtain ⟨i, hi⟩ := least s hss j hj hl
      rw [h.1] at hi; cases hi
  | succ f ih =>
    intro s s' a w hss inv heq h
    by_cases hall : ∀ j, j < n → s.getD j false = true
    · have hr : Region.ready md hd s = [] := by
        rw [List.eq_nil_iff_forall_not_mem]
        intro i hi
        obtain ⟨h0, o, ho, _⟩ := mem_ready.1 hi
        have hin : i < n := by rw [← hsz]; exact (Array.getElem?_eq_some_iff.1 ho).1
        have := getD_both h0
        rw [hall i hin] at this; cases this
      exact any_moreN (hK s' a w inv (fun j hj => by rw [heq j hj]; exact hall j hj) (h.1 hr)) (f + 1)
    · have : ∃ j, j < n ∧ s.getD j false = false := by
        apply Classical.byContradiction
        intro hno
        exact hall fun j hj => by
          cases hl : s.getD j false with
          | true => rfl
          | false => exact absurd ⟨j, hj, hl⟩ hno
      obtain ⟨j0, hj0, hl0⟩ := this
      have hl0' : s'.getD j0 true = false := getD_in (by rw [inv.size]; omega) (by rw [heq j0 hj0]; exact hl0)
      have hto : ∀ i, i < n → i ∈ Region.ready md hd s → i ∈ Region.ready md ops s' := by
        intro i hin hi
        obtain ⟨h0, o, ho, hall'⟩ := mem_ready.1 hi
        obtain ⟨o2, ho2, ha, _⟩ := earlier_spec he hin
        have e2 : o2 = o := by rw [hh i hin] at ho; exact Option.some.inj (ho2.symm.trans ho)
        subst e2
        refine mem_ready.2 ⟨getD_in (by rw [inv.size]; omega) (by rw [heq i hin]; exact getD_both h0), o2, ho2, fun e h1 h2 => ?_⟩
        have := ha e h1 h2
        rw [heq e.on (by omega)]
        exact hall' e h1 h2
      have hfrom : ∀ i, i < n → i ∈ Region.ready md ops s' → i ∈ Region.ready md hd s := by
        intro i hin hi
        obtain ⟨h0, o, ho, hall'⟩ := mem_ready.1 hi
        obtain ⟨o2, ho2, ha, _⟩ := earlier_spec he hin
        have e2 : o2 = o := Option.some.inj (ho2.symm.trans ho)
        subst e2
        refine mem_ready.2 ⟨getD_in (by omega) (by rw [← heq i hin]; exact getD_both h0), o2, by rw [hh i hin]; exact ho2, fun e h1 h2 => ?_⟩
        have := ha e h1 h2
        rw [← heq e.on (by omega)]
        exact hall' e h1 h2
      rw [Nat.add_right_comm]
      refine ⟨fun hr => ?_, fun i hi => ?_⟩
      · exfalso
        obtain ⟨i, hi⟩ := least s hss j0 hj0 hl0
        have hin : i < n := by
          obtain ⟨_, o, ho, _⟩ := mem_ready.1 hi
          rw [← hsz]; exact (Array.getElem?_eq_some_iff.1 ho).1
        have := hto i hin hi
        rw [hr] at this; cases this
      · have hin : i < n := Nat.lt_of_not_le fun hni => tail_waits hs hc hn inv _ j0 rfl hj0 hl0' i hni hi
        have hi2 := hfrom i hin hi
        have h1 := h.2 i hi2
        obtain ⟨o, ho, _, hg⟩ := earlier_spec he hin
        unfold wpOp at h1 ⊢
        rw [hh i hin, ho] at h1
        rw [ho]
        dsimp only at h1 ⊢
        have hw : Region.wanted o (yielded hd a.tmps) = Region.wanted o (yielded ops a.tmps) := wanted_congr hg fun k hk => by
          unfold yielded
          rw [hh k hk]
        rw [hw] at h1
        have step : ∀ a' w', wpAny P md hd (Exit.then K Q) f (s.setIfInBounds i true) a' w' → wpAny P md ops Q (f + g) (s'.setIfInBounds i true) a' w' := fun a' w' h' => by
          refine ih (s.setIfInBounds i true) (s'.setIfInBounds i true) a' w' (by simp [hss]) (inv.set hi hin) (fun j hj => ?_) h'
          by_cases hij : i = j
          · subst hij
            have e1 : i < s.size := by omega
            have e2 : i < s'.size := by rw [inv.size]; omega
            simp [e1, e2]
          · rw [getD_set_ne false hij, getD_set_ne false hij]; exact heq j hj
        split
        · rename_i hwt
          rw [if_pos hwt] at h1
          rcases h1 with h1 | ⟨h1, h2⟩
          · exact .inl (wp_then (Oper.wp_mono step h1))
          · obtain ⟨a1, w1, h3⟩ := h2
            exact .inr ⟨h1, a1, w1, h3⟩
        · rename_i hwt
          rw [if_neg hwt] at h1
          exact step _ _ h1
end
def headTailB (ops : Array Oper) (n : Nat) : Bool := decide (n < ops.size) && Region.sinkB .any ops n && Region.chainB .any ops n && earlierB .any ops n && Region.seqB .any ops (ops.size - n) n (Array.replicate n true ++ Array.replicate (ops.size - n) false)
theorem listed_is {md : Region.Mode} {ops : Array Oper} {n : Nat} {s : Array Bool} (hn : n < ops.size) (inv : HeadInv md ops n s) (h : ∀ j, j < n → s.getD j false = true) : s = Array.replicate n true ++ Array.replicate (ops.size - n) false := by
  apply Array.ext_getElem?
  intro i
  rcases Nat.lt_or_ge i n with hi | hi
  · have := h i hi
    have hsz : i < s.size := by rw [inv.size]; omega
    rw [Array.getElem?_append_left (by simpa using hi)]
    simp [hsz] at this
    simp [hsz, hi, this]
  · rcases Nat.lt_or_ge i ops.size with hi2 | hi2
    · have := inv.tail i hi hi2
      have hsz : i < s.size := by rw [inv.size]; omega
      rw [Array.getElem?_append_right (by simpa using hi), Array.getElem?_replicate, if_pos (by simp; omega), Array.getElem?_eq_getElem hsz]
      congr 1
      simpa [hsz] using this
    · rw [Array.getElem?_eq_none (by rw [inv.size]; omega), Array.getElem?_eq_none (by simp; omega)]
/-- The region's head by itself, in whatever order, with S at each step; then the rest. -/
theorem wp_region_held_head {P : Program} {id : Nat} {Q : Exit → Act → World → Prop} {S : World → Prop} {a : Act} {w : World} {l : List Oper} (n : Nat) (hm : P.follows .mixedOrders = true) (hB : headTailB l.toArray n = true) (hS : S w.drew)
    (h : S w.drew → wpAnyH P .any (l.take n).toArray (Exit.then (fun a' w' => wpList P l.toArray Q (l.drop n) a' w') Q) S n (Array.replicate n false) a w.drew) : (Code.region id l.toArray true).wp P Q a w := by
  simp only [headTailB, Bool.and_eq_true, decide_eq_true_eq] at hB
  obtain ⟨⟨⟨⟨hn, hs⟩, hc⟩, he⟩, hq⟩ := hB
  have hn' : n < l.length := by simpa using hn
  refine wp_region_any hm ?_
  have h0 := wpAny_of_held _ _ _ _ (h hS)
  have := any_of_head (P := P) (md := .any) (ops := l.toArray) (hd := (l.take n).toArray) (n := n) (g := l.toArray.size - n) (K := fun a' w' => wpList P l.toArray Q (l.drop n) a' w') (Q := Q)
    (by simp; omega) (fun j hj => by simp [List.getElem?_take, hj]) hs hc hn he
    (fun s a' w' inv hall hk => by
      have e := listed_is hn inv hall
      have := wpAny_of_seq (md := .any) (Q' := Q) (l.drop n) n s a' w' (fun j => by simp [List.getElem?_drop]) (by rw [e, show (l.drop n).length = l.toArray.size - n by simp]; exact hq) hk
      rwa [show (l.drop n).length = l.toArray.size - n by simp] at this)
    n (Array.replicate n false) (Array.replicate l.toArray.size false) a w.drew (by simp)
    ⟨by simp, fun j oj _ hl => (by rw [getD_replicate_false] at hl; cases hl), fun t _ ht => getD_in (by simpa using ht) (getD_replicate_false _ _)⟩
    (fun j _ => by rw [getD_replicate_false, getD_replicate_false]) h0
  rw [show n + (l.toArray.size - n) = l.toArray.size by simp; omega] at this
  exact this
end Go.Proofs.Ytiglkecmamnphaa
