/- Two clocks of the call's own, each with a row of readings. -/
import Derived.Test.YtjhcdkllneeijaaOwn
namespace Go.Proofs.Ytjhcdkllneeijaa
open Go.RowKit

def ob : Option Addr → Option Nat
  | some a => some a.block
  | none => none
theorem ob_own (A : Option Addr) (n c : Nat) : (Value.slice A n c).ownBlock = ob A := by cases A <;> rfl
section
variable {base g g2 cap n : Nat} {X w1 : World} {d : Int} {A A2 : Option Addr} {rs : List Rd} {v : Value}
theorem Own1.aside (h : Own1 base X g d A cap rs) (hg : X.grownBy w1 (ob A2)) (hb : g < base) (hob : ∀ j, ob A2 = some j → base ≤ j) (hne : ∀ j, ob A = some j → ob A2 = some j → False) (h2 : g2 ≠ g) (h2b : g2 < base) : Own1 base (w1.setCell ⟨g2, 1, none⟩ v) g d A cap rs := by
  refine ⟨(h.row.grown hg (fun e => by have := hob _ e.symm; omega)).aside (p := ⟨g2, 1, none⟩) h2 v, ?_⟩
  have k1 : w1.ownsRow base 50 3 (.slice A rs.length cap) rs.length (flat3 rs) := h.own.kept hg (by
    rw [ob_own]
    cases hA : ob A with
    | none => exact .inl rfl
    | some j => exact .inr (fun e => hne j hA e.symm))
  refine k1.kept (grown_set _ _ _) (.inr (fun e => ?_))
  rw [ob_own] at e
  have := (h.own.lt g2 (by rw [ob_own]; exact e)).1
  omega
end
/-- The state: below G the world is as it was; two clocks at G and G + 1. -/
structure Nst (W3 wr : World) (G : Nat) (d : Int) (AF : Option Addr) (cF : Nat) (F : List Rd) (AV : Option Addr) (cV : Nat) (V : List Rd) : Prop where
  bel : Below G W3 wr
  f : Own1 (G + 2) wr G d AF cF F
  v : Own1 (G + 2) wr (G + 1) d AV cV V
  sep : ∀ j, ob AF = some j → ob AV = some j → False
  size : G + 2 ≤ wr.heap.size
section
variable {W3 wr X w1 : World} {G cF cV : Nat} {d : Int} {AF AV : Option Addr} {F V : List Rd}
theorem Nst.later (h : Nst W3 wr G d AF cF F AV cV V) (o : Obj) : Nst W3 (wr.alloc o) G d AF cF F AV cV V := ⟨h.bel.alloc (by have := h.size; omega) o, h.f.later o, h.v.later o, h.sep, by have := h.size; simp; omega⟩
theorem Nst.drewN (h : Nst W3 wr G d AF cF F AV cV V) (n : Nat) : Nst W3 (wr.drewN n) G d AF cF F AV cV V := ⟨below_drawnN h.bel n, h.f.drewN n, h.v.drewN n, h.sep, h.size⟩
theorem Nst.drew (h : Nst W3 wr G d AF cF F AV cV V) : Nst W3 wr.drew G d AF cF F AV cV V := ⟨h.bel.drew, ⟨h.f.row, h.f.own⟩, ⟨h.v.row, h.v.own⟩, h.sep, h.size⟩
/-- A store into a block of which neither clock knows. -/
theorem Nst.put (h : Nst W3 wr G d AF cF F AV cV V) {q : Nat} (hq : G + 2 ≤ q) (hF : ob AF ≠ some q) (hV : ob AV ≠ some q) (i : Nat) (u : Value) : Nst W3 (wr.setCell ⟨q, i, none⟩ u) G d AF cF F AV cV V :=
  ⟨h.bel.setCell (p := ⟨q, i, none⟩) (by show G ≤ q; omega) u, ⟨h.f.row.aside (p := ⟨q, i, none⟩) (by show q ≠ G; omega) u, h.f.own.kept (grown_set _ _ _) (.inr (by rw [ob_own]; exact hF))⟩,
    ⟨h.v.row.aside (p := ⟨q, i, none⟩) (by show q ≠ G + 1; omega) u, h.v.own.kept (grown_set _ _ _) (.inr (by rw [ob_own]; exact hV))⟩, h.sep, by have := h.size; simpa [World.setCell] using this⟩
theorem Nst.ltF (h : Nst W3 wr G d AF cF F AV cV V) {j : Nat} (e : ob AF = some j) : G + 2 ≤ j ∧ j < wr.heap.size := h.f.own.lt j (by rw [ob_own]; exact e)
theorem Nst.ltV (h : Nst W3 wr G d AF cF F AV cV V) {j : Nat} (e : ob AV = some j) : G + 2 ≤ j ∧ j < wr.heap.size := h.v.own.lt j (by rw [ob_own]; exact e)
theorem Nst.pushF (h : Nst W3 X G d AF cF F AV cV V) {n g' cap' H : Nat} {r : Rd} (hn : n = F.length) (hg : X.grownBy w1 (Value.slice AF n cF).ownBlock)
    (ho : w1.ownsRow (G + 2) 50 3 (.slice (some ⟨g', 0, none⟩) (n + 1) cap') (n + 1) (flat3 F ++ enc3 r)) (hat : (Value.slice AF n cF).ownBlock = some g' ∨ g' = H) (hH : X.heap.size = H) :
    Row w1 G 24 #[.int .i64 d, .slice AF n cF] ∧ Nst W3 (w1.setCell ⟨G, 1, none⟩ (.slice (some ⟨g', 0, none⟩) (n + 1) cap')) G d (some ⟨g', 0, none⟩) cap' (F ++ [r]) AV cV V := by
  obtain ⟨n1, n2⟩ := Own1.next hn (by omega) h.f hg ho
  have hs := hg.size
  rw [ob_own] at hg hat
  refine ⟨n1, ⟨(h.bel.grown hg (by have := h.size; omega) (fun k hk => by have := (h.ltF hk).1; omega)).setCell (p := ⟨G, 1, none⟩) (Nat.le_refl _) _, n2, h.v.aside hg (by omega) (fun j e => (h.ltF e).1) (fun j e1 e2 => h.sep j e2 e1) (by omega) (by omega), fun j e1 e2 => ?_, by have := h.size; simp [World.setCell]; omega⟩⟩
  have e1' : g' = j := by simpa [ob] using e1
  subst e1'
  rcases hat with hat | hat
  · exact h.sep _ hat e2
  · have := (h.ltV e2).2; omega
theorem Nst.pushV (h : Nst W3 X G d AF cF F AV cV V) {n g' cap' H : Nat} {r : Rd} (hn : n = V.length) (hg : X.grownBy w1 (Value.slice AV n cV).ownBlock)
    (ho : w1.ownsRow (G + 2) 50 3 (.slice (some ⟨g', 0, none⟩) (n + 1) cap') (n + 1) (flat3 V ++ enc3 r)) (hat : (Value.slice AV n cV).ownBlock = some g' ∨ g' = H) (hH : X.heap.size = H) :
    Row w1 (G + 1) 24 #[.int .i64 d, .slice AV n cV] ∧ Nst W3 (w1.setCell ⟨G + 1, 1, none⟩ (.slice (some ⟨g', 0, none⟩) (n + 1) cap')) G d AF cF F (some ⟨g', 0, none⟩) cap' (V ++ [r]) := by
  obtain ⟨n1, n2⟩ := Own1.next hn (by omega) h.v hg ho
  have hs := hg.size
  rw [ob_own] at hg hat
  refine ⟨n1, ⟨(h.bel.grown hg (by have := h.size; omega) (fun k hk => by have := (h.ltV hk).1; omega)).setCell (p := ⟨G + 1, 1, none⟩) (Nat.le_succ _) _, h.f.aside hg (by omega) (fun j e => (h.ltV e).1) (fun j e1 e2 => h.sep j e1 e2) (by omega) (by omega), n2, fun j e1 e2 => ?_, by have := h.size; simp [World.setCell]; omega⟩⟩
  have e2' : g' = j := by simpa [ob] using e2
  subst e2'
  rcases hat with hat | hat
  · exact h.sep _ e1 hat
  · have := (h.ltF e1).2; omega
end

/-- Readings that are no narrower than those of rs. -/
structure Wid (rs : List Rd) (i : Nat) (F : List Rd) : Prop where
  good : goodB (-1) F = true
  wide : ∀ y ∈ F, ∃ r ∈ rs.take i, r.1 = y.1 ∧ y.2.1 ≤ r.2.1 ∧ r.2.2 ≤ y.2.2
  len : F.length ≤ i
theorem Wid.nil (rs : List Rd) : Wid rs 0 [] := ⟨rfl, by simp, by simp⟩
theorem good_lt : ∀ (rs : List Rd) (b : Int), goodB b rs = true → ∀ (i j : Nat) (x y : Rd), i < j → rs[i]? = some x → rs[j]? = some y → x.1 < y.1
  | [], _, _, i, j, x, y, _, hx, _ => by simp at hx
  | z :: l, b, h, i, j, x, y, hij, hx, hy => by
    simp only [goodB, Bool.and_eq_true] at h
    match i, j, hij, hx, hy with
    | 0, j + 1, _, hx, hy =>
      cases hx
      exact (good_all h.2 y (List.mem_of_getElem? (by simpa using hy))).1
    | i + 1, j + 1, hij, hx, hy => exact good_lt l z.1 h.2 i j x y (by omega) (by simpa using hx) (by simpa using hy)
theorem Wid.skip {rs F : List Rd} {i : Nat} (h : Wid rs i F) : Wid rs (i + 1) F := ⟨h.good, fun y hy => by
  obtain ⟨r, hr, h1⟩ := h.wide y hy
  exact ⟨r, by rw [List.take_add_one]; exact List.mem_append_left _ hr, h1⟩, by have := h.len; omega⟩
theorem Wid.push {rs F : List Rd} {i : Nat} (h : Wid rs i F) (hg : goodB (-1) rs = true) {r y : Rd} (hr : rs[i]? = some r) (h1 : r.1 = y.1) (h2 : y.2.1 ≤ r.2.1) (h3 : r.2.2 ≤ y.2.2) (h4 : 0 ≤ y.2.1) (h5 : y.2.2 ≤ 10000000) : Wid rs (i + 1) (F ++ [y]) := by
  have hrr := good_all hg r (List.mem_of_getElem? hr)
  refine ⟨good_snoc F (-1) y h.good (fun z hz => ?_) (by omega) (by omega) h4 (by omega) h5, fun z hz => ?_, by have := h.len; simp; omega⟩
  · obtain ⟨q, hq, e1, _⟩ := h.wide z (List.mem_of_getLast? hz)
    obtain ⟨j, hj, hjq⟩ := List.getElem_of_mem hq
    have hj2 : j < i := by rw [List.length_take] at hj; omega
    have hj3 : rs[j]? = some q := by
      have : (rs.take i)[j]? = some q := by rw [List.getElem?_eq_getElem hj, hjq]
      rwa [List.getElem?_take_of_lt hj2] at this
    have := good_lt rs (-1) hg j i q r hj2 hj3 hr
    omega
  · rcases List.mem_append.1 hz with hz | hz
    · exact h.skip.wide z hz
    · rw [List.mem_singleton.1 hz]
      exact ⟨r, by rw [List.take_add_one, hr]; exact List.mem_append_right _ (by simp), h1, h2, h3⟩
theorem bnd_wide (d l : Int) {r y : Rd} (h1 : r.1 = y.1) (h2 : y.2.1 ≤ r.2.1) (h3 : r.2.2 ≤ y.2.2) : (bnd d y l).1 ≤ (bnd d r l).1 ∧ (bnd d r l).2 ≤ (bnd d y l).2 := by
  unfold bnd
  rw [h1]
  split
  · exact ⟨by dsimp only; omega, by dsimp only; omega⟩
  · split
    · exact ⟨by dsimp only; omega, by dsimp only; omega⟩
    · exact ⟨by dsimp only; omega, by dsimp only; omega⟩
/-- What At says of rs, and of what is no narrower. -/
theorem wide_facts {d start : Int} {rates : List Int} (d0 : 0 ≤ d) (d1 : d ≤ 100) {rs : List Rd} (h : Mok d start rates rs) {l : Int} (l0 : 0 ≤ l) (l1 : l ≤ 10000000) :
    ∃ x y e : Int, atS d rs l = (x, y, e) ∧ (e ≠ 0 → x = 0 ∧ y = 0) ∧ ∀ F, Wid rs rs.length F → ∃ a b f : Int, atS d F l = (a, b, f) ∧ (e = 0 → f = 0 ∧ a ≤ x ∧ y ≤ b) := by
  have hv := h.valid d0 d1
  have ol : okT l = true := okT_iff.2 ⟨l0, l1⟩
  by_cases c1 : (win d rs l).1 ≤ (win d rs l).2
  · refine ⟨_, _, _, if_pos ⟨hv, ol, c1⟩, fun h => absurd rfl h, fun F hF => ?_⟩
    have hl := h.len
    have hvF : validB d F = true := valid_iff.2 ⟨⟨d0, d1⟩, by have := hF.len; omega, hF.good⟩
    have q1 := win_fst.1 (Int.le_refl (win d rs l).1)
    have q2 := win_snd.1 (Int.le_refl (win d rs l).2)
    have hm : ∀ y ∈ F, ∃ r ∈ rs, r.1 = y.1 ∧ y.2.1 ≤ r.2.1 ∧ r.2.2 ≤ y.2.2 := fun y hy => by
      obtain ⟨r, hr, k⟩ := hF.wide y hy
      exact ⟨r, List.mem_of_mem_take hr, k⟩
    have u1 : (win d F l).1 ≤ (win d rs l).1 := win_fst.2 ⟨q1.1, fun y hy => by
      obtain ⟨r, hr, k1, k2, k3⟩ := hm y hy
      have := q1.2 r hr
      have := (bnd_wide d l k1 k2 k3).1
      omega⟩
    have u2 : (win d rs l).2 ≤ (win d F l).2 := win_snd.2 ⟨q2.1, fun y hy => by
      obtain ⟨r, hr, k1, k2, k3⟩ := hm y hy
      have := q2.2 r hr
      have := (bnd_wide d l k1 k2 k3).2
      omega⟩
    exact ⟨_, _, _, if_pos ⟨hvF, ol, by omega⟩, fun _ => ⟨rfl, u1, u2⟩⟩
  · exact ⟨0, 0, 50, if_neg (fun k => c1 k.2.2), fun _ => ⟨rfl, rfl⟩, fun F _ => ⟨_, _, _, rfl, fun h => by omega⟩⟩
end Go.Proofs.Ytjhcdkllneeijaa
