/- Tables that the program makes: the outer row, and behind it its rows. contradicts. -/
import Derived.Test.YtkeimfkaoianmaaVal
namespace Go.Proofs.Ytkeimfkaoianmaa
open Go.RowKit

/-- A row of n integers. -/
def rowA (n : Nat) (f : Int → Int) : Array Value := ((List.range n).map fun j : Nat => Value.int .i64 (f j)).toArray
/-- The outer row: slices of the blocks behind it. -/
def outA (n s : Nat) : Array Value := ((List.range n).map fun u : Nat => Value.slice (some ⟨s + 1 + u, 0, none⟩) n n).toArray
theorem rowA_at {n j : Nat} (f : Int → Int) (h : j < n) : (rowA n f)[j]? = some (.int .i64 (f j)) := by simp [rowA, h]
theorem outA_at {n u : Nat} (s : Nat) (h : u < n) : (outA n s)[u]? = some (.slice (some ⟨s + 1 + u, 0, none⟩) n n) := by simp [outA, h]
theorem rowA_size (n : Nat) (f : Int → Int) : (rowA n f).size = n := by simp [rowA]
theorem outA_size (n s : Nat) : (outA n s).size = n := by simp [outA]
theorem rowA_set {n j : Nat} {f g : Int → Int} {v : Int} (h : j < n) (hv : g j = v) (ho : ∀ i : Nat, i < n → i ≠ j → g i = f i) : (rowA n f).setIfInBounds j (.int .i64 v) = rowA n g := by
  apply Array.ext_getElem?
  intro i
  rw [Array.getElem?_setIfInBounds]
  by_cases e : j = i
  · subst e
    rw [if_pos rfl, if_pos (by rw [rowA_size]; exact h), rowA_at g h, hv]
  · rw [if_neg e]
    by_cases hi : i < n
    · rw [rowA_at f hi, rowA_at g hi, ho i hi (fun h => e h.symm)]
    · rw [Array.getElem?_eq_none (by rw [rowA_size]; omega), Array.getElem?_eq_none (by rw [rowA_size]; omega)]
theorem rowA_congr {n : Nat} {f g : Int → Int} (h : ∀ i : Nat, i < n → f i = g i) : rowA n f = rowA n g := by
  unfold rowA
  congr 1
  apply List.map_congr_left
  intro j hj
  rw [h j (List.mem_range.1 hj)]

/-- A table that begins at block s. -/
structure Tbl (w : World) (s n : Nat) (f : Int → Int → Int) : Prop where
  out : Row w s 22 (outA n s)
  rows : ∀ u : Nat, u < n → Row w (s + 1 + u) 3 (rowA n (f u))
def tblV (s n : Nat) : Value := .slice (some ⟨s, 0, none⟩) n n
section
variable {w W : World} {s n : Nat} {f g : Int → Int → Int}
theorem Tbl.inside (h : Tbl w s n f) : s + n < w.heap.size := by
  rcases Nat.eq_zero_or_pos n with e | e
  · rw [e]; exact h.out.inside
  · have := (h.rows (n - 1) (by omega)).inside; omega
theorem Tbl.below {B : Nat} (h : Tbl w s n f) (hb : Below B w W) (hB : s + n < B) : Tbl W s n f := ⟨h.out.below hb (by omega), fun u hu => (h.rows u hu).below hb (by omega)⟩
theorem Tbl.step (h : Tbl w s n f) (hb : Below w.heap.size w W) : Tbl W s n f := h.below hb h.inside
theorem Tbl.grown {row : Option Nat} (h : Tbl w s n f) (hb : w.grownBy W row) (hr : ∀ r, row = some r → r < s ∨ s + n < r) : Tbl W s n f :=
  ⟨h.out.grown hb (fun e => by have := hr s e.symm; omega), fun u hu => (h.rows u hu).grown hb (fun e => by have := hr _ e.symm; omega)⟩
theorem Tbl.congr (h : Tbl w s n f) (e : ∀ u v : Nat, u < n → v < n → f u v = g u v) : Tbl w s n g := ⟨h.out, fun u hu => by rw [← rowA_congr (fun i hi => e u i hu hi)]; exact h.rows u hu⟩
theorem Tbl.cell (h : Tbl w s n f) {u : Nat} (hu : u < n) : w.cell? ⟨s, u, none⟩ = some (.slice (some ⟨s + 1 + u, 0, none⟩) n n) := h.out.at (outA_at s hu)
theorem Tbl.val (h : Tbl w s n f) {u v : Nat} (hu : u < n) (hv : v < n) : w.cell? ⟨s + 1 + u, v, none⟩ = some (.int .i64 (f u v)) := (h.rows u hu).at (rowA_at _ hv)
end

def negB (n : Nat) (f : Int → Int → Int) : Bool := (List.range n).any fun u => decide (f (u : Int) (u : Int) < 0)
theorem badB_neg (n : Nat) (bs : List Bn) : badB n bs = negB n (tb bs n) := rfl

set_option maxRecDepth 100000 in
set_option maxHeartbeats 4000000 in
theorem contradicts_any (s n : Nat) (f : Int → Int → Int) (hn : n ≤ 1000) (w : World) (h : Tbl w s n f) :
    Calls Try.prog 40 #[tblV s n] w fun e w' => e = .returned (.bool (negB n f)) ∧ w' = w := by
  unfold tblV
  have H := Lib.hid h
  clear h
  go_enter Try.func40, Try.ntmps40
  go_wp2
  go_loopg [3, 4, 7] n (fun kx s3 s4 s7 wr => ∃ k : Nat, s7 = .int .i64 (k : Int) ∧ k + kx = n ∧ Hid (∀ u : Nat, u < k → 0 ≤ f u u) ∧ wr = w)
  case atStart => exact ⟨0, rfl, by omega, Lib.hid (fun u hu => absurd hu (by omega)), rfl⟩
  case round =>
    obtain ⟨k, rfl, hk, I, rfl⟩ := hrel
    by_cases hlt : k < n
    · have c1 := H.out.cell hlt
      have c2 := H.out.val hlt hlt
      by_cases hx : f k k < 0
      · have HX := Lib.hid hx
        generalize f k k = x at c2 hx
        go_wp2
        go_ret
        have : negB n f = true := List.any_eq_true.2 ⟨k, List.mem_range.2 hlt, decide_eq_true HX.out⟩
        exact ⟨by rw [this]; rfl, rfl⟩
      · have HX := Lib.hid hx
        generalize f k k = x at c2 hx
        go_wp2
        go_roundg (n - (k + 1))
        case measure => omega
        case rel => exact ⟨k + 1, by go_num, by omega, Lib.hid (fun u hu => by
          rcases Nat.lt_or_ge u k with h | h
          · exact I.out u h
          · obtain rfl : u = k := by omega
            have := HX.out; omega), rfl⟩
    · go_wp2
      go_ret
      have : negB n f = false := by
        cases hb : negB n f with
        | false => rfl
        | true =>
          obtain ⟨u, hu, hlt⟩ := List.any_eq_true.1 hb
          have := List.mem_range.1 hu
          have h1 : f (u : Int) (u : Int) < 0 := of_decide_eq_true hlt
          have h2 := I.out u (by omega)
          omega
      exact ⟨by rw [this]; rfl, rfl⟩
end Go.Proofs.Ytkeimfkaoianmaa
