/- What the laws over Made share: a clock in its box, the contracts at it, that the bounds are sound. -/
import Derived.Test.YtjhcdkllneeijaaMade
import Derived.Test.YtjhcdkllneeijaaFind
namespace Go.Proofs.Ytjhcdkllneeijaa
open Go.RowKit

/-- A clock in a box: block g; its readings stand. -/
structure Ck (W : World) (g : Nat) (d : Int) (A : Option Addr) (N cap : Nat) (rs : List Rd) : Prop where
  row : Row W g 24 #[.int .i64 d, .slice A N cap]
  rds : Rds W W.heap.size A rs
  len : N = rs.length
section
variable {W W' : World} {g N cap : Nat} {d : Int} {A : Option Addr} {rs : List Rd}
theorem Ck.step (h : Ck W g d A N cap rs) (b : Below W.heap.size W W') : Ck W' g d A N cap rs := ⟨Row.below h.row b h.row.inside, h.rds.deep b, h.len⟩
theorem Ck.alloc (h : Ck W g d A N cap rs) (o : Obj) : Ck (W.alloc o) g d A N cap rs := h.step (below_alloc W o)
theorem Ck.box (h : Rds W W.heap.size A rs) (hN : N = rs.length) (t : Value) (ht : t = .agg #[.int .i64 d, .slice A N cap]) : Ck (W.alloc (.cells #[.int .i64 d, .slice A N cap] 24)) W.heap.size d A N cap rs :=
  ⟨Row.made _ _ _, h.deep (below_alloc _ _), hN⟩
theorem Ck.eqs (h : Ck W g d A N cap rs) : W.cell? ⟨g, 0, none⟩ = some (.int .i64 d) ∧ W.cell? ⟨g, 1, none⟩ = some (.slice A N cap) ∧ W.frozen? ⟨g, 0, none⟩ = false ∧ W.frozen? ⟨g, 1, none⟩ = false := h.row.two
theorem k_at {l x y z : Int} (hn : N ≤ 9223372036854775807) (hv : atS d rs l = (x, y, z)) (h : Ck W g d A N cap rs) :
    Calls Try.prog 20 #[.agg #[.int .i64 d, .slice A N cap], .int .i64 l] W fun e w' => e = .returned (.tuple #[.int .i64 x, .int .i64 y, .int .i64 z]) ∧ Below W.heap.size W w' := by
  obtain ⟨_, hr, rfl⟩ := h
  have := at_any d rs A cap l hn W hr
  rw [hv] at this; exact this
theorem k_reads {l x y z : Int} (hn : N ≤ 9223372036854775807) (hv : readsS d rs l = (x, y, z)) (h : Ck W g d A N cap rs) :
    Calls Try.prog 22 #[.agg #[.int .i64 d, .slice A N cap], .int .i64 l] W fun e w' => e = .returned (.tuple #[.int .i64 x, .int .i64 y, .int .i64 z]) ∧ Below W.heap.size W w' := by
  obtain ⟨_, hr, rfl⟩ := h
  have := reads_any d rs A cap l hn W hr
  rw [hv] at this; exact this
theorem k_before {l t : Int} {b : Bool} (hn : N ≤ 9223372036854775807) (hv : beforeS d rs l t = b) (h : Ck W g d A N cap rs) :
    Calls Try.prog 24 #[.agg #[.int .i64 d, .slice A N cap], .int .i64 l, .int .i64 t] W fun e w' => e = .returned (.bool b) ∧ Below W.heap.size W w' := by
  obtain ⟨_, hr, rfl⟩ := h
  have := before_any d rs A cap l t hn W hr
  rw [hv] at this; exact this
theorem k_after {l t : Int} {b : Bool} (hn : N ≤ 9223372036854775807) (hv : afterS d rs l t = b) (h : Ck W g d A N cap rs) :
    Calls Try.prog 26 #[.agg #[.int .i64 d, .slice A N cap], .int .i64 l, .int .i64 t] W fun e w' => e = .returned (.bool b) ∧ Below W.heap.size W w' := by
  obtain ⟨_, hr, rfl⟩ := h
  have := after_any d rs A cap l t hn W hr
  rw [hv] at this; exact this
theorem k_valid {b : Bool} (hn : N ≤ 9223372036854775807) (hv : validB d rs = b) (h : Ck W g d A N cap rs) :
    Calls Try.prog 17 #[.agg #[.int .i64 d, .slice A N cap]] W fun e w' => e = .returned (.bool b) ∧ Below W.heap.size W w' := by
  obtain ⟨_, hr, rfl⟩ := h
  have := valid_any d rs A cap hn W hr
  rw [hv] at this; exact this
end

theorem Mok.valid {d start : Int} {rates : List Int} {rs : List Rd} (h : Mok d start rates rs) (d0 : 0 ≤ d) (d1 : d ≤ 100) : validB d rs = true := valid_iff.2 ⟨⟨d0, d1⟩, h.len, h.good⟩
/-- A true second lies within the bounds of what the clock shows. -/
theorem sound_bnd {d start : Int} {rates : List Int} (d0 : 0 ≤ d) (d1 : d ≤ 100) {r : Rd} (hr : OkR d start rates r) {t : Int} (ht : 0 ≤ t) : (bnd d r (shN d start rates t)).1 ≤ t ∧ t ≤ (bnd d r (shN d start rates t)).2 := by
  obtain ⟨s, s0, s1, h1, h2, h3, h4, _⟩ := hr
  have key : ∀ (a b : Int), 0 ≤ a → a ≤ b → shN d start rates b < shN d start rates a → False := by
    intro a b ha hab hlt
    have h := (shN_fits (start := start) d0 (rates := rates) ha hab).1
    have := Int.mul_nonneg (show 0 ≤ 1000 - d by omega) (show 0 ≤ b - a by omega)
    generalize (1000 - d) * (b - a) = y at *
    omega
  have fit : ∀ (a b : Int), 0 ≤ a → a ≤ b → 0 ≤ shN d start rates b - shN d start rates a → lo d (shN d start rates b - shN d start rates a) ≤ b - a ∧ b - a ≤ hi d (shN d start rates b - shN d start rates a) := fun a b ha hab hn =>
    (fits_iff d0 d1 hn (show 0 ≤ b - a by omega)).1 (shN_fits (start := start) d0 (rates := rates) ha hab)
  unfold bnd
  rw [h1]
  by_cases c1 : shN d start rates s < shN d start rates t
  · rw [if_pos c1]
    have hst : s ≤ t := by
      rcases Int.le_total s t with h | h
      · exact h
      · exact absurd (key t s ht h c1) id
    have := fit s t s0 hst (by omega)
    exact ⟨by dsimp only; omega, by dsimp only; omega⟩
  · rw [if_neg c1]
    by_cases c2 : shN d start rates t < shN d start rates s
    · rw [if_pos c2]
      have hst : t ≤ s := by
        rcases Int.le_total t s with h | h
        · exact h
        · exact absurd (key s t s0 h c2) id
      have := fit t s ht hst (by omega)
      exact ⟨by dsimp only; omega, by dsimp only; omega⟩
    · rw [if_neg c2]
      have he : shN d start rates t = shN d start rates s := by omega
      rcases Int.le_total s t with h | h
      · have := fit s t s0 h (by omega)
        rw [he, Int.sub_self] at this
        exact ⟨by dsimp only; omega, by dsimp only; omega⟩
      · have := fit t s ht h (by omega)
        rw [he, Int.sub_self] at this
        exact ⟨by dsimp only; omega, by dsimp only; omega⟩
theorem sound_win {d start : Int} {rates : List Int} (d0 : 0 ≤ d) (d1 : d ≤ 100) {rs : List Rd} (h : Mok d start rates rs) {t : Int} (ht : 0 ≤ t) (ht2 : t ≤ 10000000) : (win d rs (shN d start rates t)).1 ≤ t ∧ t ≤ (win d rs (shN d start rates t)).2 :=
  ⟨win_fst.2 ⟨ht, fun r hr => (sound_bnd d0 d1 (h.ok r hr) ht).1⟩, win_snd.2 ⟨ht2, fun r hr => (sound_bnd d0 d1 (h.ok r hr) ht).2⟩⟩
/-- A local second is among those of Reads exactly if the true second is in its window. -/
theorem reads_iff {d : Int} (d0 : 0 ≤ d) (d1 : d ≤ 100) {rs : List Rd} (t l : Int) (l0 : 0 ≤ l) (l1 : l ≤ 10000000) :
    ((fstN d rs t : Int) ≤ l ∧ l < (endN d rs t : Int)) ↔ ((win d rs l).1 ≤ t ∧ t ≤ (win d rs l).2) := by
  obtain ⟨n, rfl⟩ := Int.eq_ofNat_of_zero_le l0
  have h1 := fst_iff d0 d1 rs t (l := n) (by omega)
  have h2 := end_iff d0 d1 rs t (l := n) (by omega)
  constructor
  · rintro ⟨a, b⟩
    exact ⟨h2.1 (by omega), h1.1 (by omega)⟩
  · rintro ⟨a, b⟩
    have := h2.2 a
    have := h1.2 b
    omega

theorem k_made (drift start : Int) (rates : List Int) (RA : Option Addr) (rc : Nat) (l : List Rd) (LA : Option Addr) (lc : Nat) (b0 : In64 drift) (b1 : In64 start) (hrr : ∀ r ∈ rates, In64 r) (hrn : rates.length ≤ 9223372036854775807)
    (hlr : ∀ r ∈ l, In64 r.1 ∧ In64 r.2.1 ∧ In64 r.2.2) (hln : l.length ≤ 9223372036854775807) (w : World) (hr : Nums w w.heap.size RA rates) (hl : Rds w w.heap.size LA l) :
    Calls Try.prog 16 #[.int .i64 drift, .int .i64 start, .slice RA rates.length rc, .slice LA l.length lc] w fun e w' =>
      ∃ (A : Option Addr) (cap N : Nat) (rs : List Rd), e = .returned (.agg #[.int .i64 (pk drift 101), .slice A N cap]) ∧ N = rs.length ∧ N ≤ 12 ∧ Mok (pk drift 101) start rates rs ∧ Rds w' w'.heap.size A rs ∧ Below w.heap.size w w' :=
  (made_any drift start rates RA rc l LA lc b0 b1 hrr hrn hlr hln w hr hl).mono fun _ _ ⟨A, cap, rs, he, hm, hd, hb⟩ => ⟨A, cap, rs.length, rs, he, rfl, hm.len, hm, hd, hb⟩
/-- All that a law asks of a true second below 5000. -/
theorem snd_facts {d start : Int} {rates : List Int} (d0 : 0 ≤ d) (d1 : d ≤ 100) {rs : List Rd} (h : Mok d start rates rs) {t : Int} (t0 : 0 ≤ t) (t1 : t < 5000) :
    ∃ x y f g : Int, atS d rs (shN d start rates t) = (x, y, 0) ∧ readsS d rs t = (f, g, 0) ∧ x ≤ t ∧ t ≤ y ∧ f ≤ shN d start rates t ∧ shN d start rates t ≤ g ∧
      (∀ o, beforeS d rs (shN d start rates t) o = decide (y < o)) ∧ (∀ o, afterS d rs (shN d start rates t) o = decide (o < x)) := by
  have hv := h.valid d0 d1
  have hl := shN_range (start := start) d0 d1 rates t0 (by omega)
  obtain ⟨s1, s2⟩ := sound_win d0 d1 h t0 (by omega)
  have ha : atS d rs (shN d start rates t) = ((win d rs (shN d start rates t)).1, (win d rs (shN d start rates t)).2, 0) := if_pos ⟨hv, okT_iff.2 ⟨hl.1, by omega⟩, by omega⟩
  obtain ⟨r1, r2⟩ := (reads_iff d0 d1 (rs := rs) t (shN d start rates t) hl.1 (by omega)).2 ⟨s1, s2⟩
  have hr : readsS d rs t = ((fstN d rs t : Int), (endN d rs t : Int) - 1, 0) := if_pos ⟨hv, okT_iff.2 ⟨t0, by omega⟩, by omega⟩
  refine ⟨_, _, _, _, ha, hr, s1, s2, r1, by omega, fun o => ?_, fun o => ?_⟩
  · rw [beforeS, ha]; simp
  · rw [afterS, ha]; simp
end Go.Proofs.Ytjhcdkllneeijaa
